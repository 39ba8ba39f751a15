/- StoreKeys' own walk, given what a journal's functions answer. No condition but the sizes. -/
import Derived.Test.YtlogjpmdfimgdaaGreatDoorX15
namespace Go.Proofs.YtlogjpmdfimgdaaGreatDoor
open Go Go.RowKit Go.Own Go.Own.Fr Go.Maps Go.WideMaps
/-- An append whose run is known. -/
theorem wpList_appR {ops : Array Oper} {rest : List Oper} {o : Oper} {a : Act} {Q : Exit → Act → World → Prop} {W : World} (hgd : o.guard = none) (s x : Operand) (t : TypeId)
    (ho : o.op = .call { callee := .builtin .append, args := #[s, x], argTypes := #[t, t] }) (v u v' : Value) (W' : World) (hs : a.eval s = v) (hx : a.eval x = u) (hr : (Builtin.append_ #[t, t] o.type #[v, u]).run Tryz.prog W = .ok v' W') (h : wpList Tryz.prog ops Q rest (a.put o.dst v') W') : wpList Tryz.prog ops Q (o :: rest) a W := by
  refine wpList_plain hgd fun _ hK => ?_
  unfold Oper.wp execOp
  simp only [ho, resolve, invoke, builtin, Sem.run_bind, Sem.run_pure, Result.andThen_ok, List.map_toArray, List.map_cons, List.map_nil, hs, hx, hr]
  exact hK _ _ h
section
variable {Sg : Type} {base : Nat} {JS : (Nat → Prop) → World → Addr → Sg → Prop} {good : Sg → Prop} {tx : Sg → List (List Nat)} {apE : Sg → List Nat → Int} {apS : Sg → List Nat → Sg} {anE : Sg → List (List Nat) → Int} {anS : Sg → List (List Nat) → Sg}
theorem OwnS.chg {F : Nat → Prop} {w w6 w7 : World} {B : Nat} {v : Value} {l : List ByteArray} (h : OwnS w B v l) (hB : Below w.heap.size w w6) (hc : Chg F w6 w7) (hF : ∀ k, F k → k < B) : OwnS w7 B v l := by
  refine ⟨h.1, ?_⟩
  rcases h.2 with h2 | ⟨g, cap, cur, rfl, hb, hg, h1, h2, h3, h4⟩
  · exact Or.inl h2
  · have hlt := (Array.getElem?_eq_some_iff.1 hg).1
    exact Or.inr ⟨g, cap, cur, rfl, hb, ((hc.2 g (Nat.lt_of_lt_of_le hlt hB.size) (fun hf => by have := hF g hf; omega)).trans (hB.block g hlt)).trans hg, h1, h2, h3, h4⟩
theorem OwnS.len {w : World} {B : Nat} {v : Value} {l : List ByteArray} (h : OwnS w B v l) : l.length ≤ 9223372036854775807 := by
  rcases h.2 with ⟨_, h2⟩ | ⟨g, cap, cur, _, _, _, h1, h2, _⟩
  · omega
  · unfold maxLen at h2; omega
theorem StoreAt.lt (HJ : Jour base JS good tx apE apS anE anS) {O S : Nat → Prop} {w : World} {sb b n : Nat} {jp : Addr} {s : Sg} {g : ByteArray → Option A} (H : StoreAt base JS O S w sb jp b n s g) : ∀ k, Ft O (fun k => S k ∧ k < w.heap.size) sb b k → k < w.heap.size := fun k hk => by
  rcases hk with h | h | h | h
  · exact (HJ.lt O w jp s H.jour k h).2
  · exact h.2
  · obtain ⟨_, f, hm, _⟩ := H.map
    rw [h]; exact hm.lt
  · rw [h]; exact H.at_.1
theorem keep_at {w w' : World} {b : Nat} {x : Obj} (hB : Below w.heap.size w w') (h : w.heap[b]? = some x) : w'.heap[b]? = some x := (hB.block b (Array.getElem?_eq_some_iff.1 h).1).trans h
def TrueQ (base : Nat) (w : World) (e : Ending) (w' : World) : Prop := e = .returned (.bool true) ∧ Below base w w'
set_option maxRecDepth 100000 in
set_option maxHeartbeats 4000000 in
theorem keys_of (HJ : Jour base JS good tx apE apS anE anS) (HG : Goes good apE apS anE anS) (w : World) (hbase : base = w.heap.size) (HAW : Calls Tryz.prog 5 #[] w fun e w' => e = .returned (.bool true) ∧ Below w.heap.size w w')
    (HNEW : ∀ W, Below base w W → ∃ (DS : World → Addr → Prop) (s0 : Sg), Calls Tryz.prog 23 #[.int .i64 200] W (DNewQ JS DS s0 W) ∧ good s0 ∧ tx s0 = [])
    (L : List Ac) (l : List (ByteArray × V × Bool)) (p : Option Addr) (cap : Nat) (p2 : Option Addr) (cap2 : Nat) (pre : ByteArray) (hL : InAct w (.slice p L.length cap) L) (hl : InCh w (.slice p2 l.length cap2) l) (hLn : L.length ≤ 2513169434900) (hsz : ∀ a ∈ L, a.l.length ≤ 140737488355328 ∧ ∀ x ∈ a.l, x.1.size ≤ 140737488355328) (hlz : l.length ≤ 140737488355328 ∧ ∀ x ∈ l, x.1.size ≤ 140737488355328) :
    Calls Tryz.prog 4 #[.slice p L.length cap, .slice p2 l.length cap2, .string pre] w (TrueQ base w) := by
  subst hbase
  have HBF := Lib.hid fun W hL hl => both_few L l p cap (.slice p2 l.length cap2) W hL hl hLn hsz hlz
  have HL := Lib.hid hL
  have HLL := Lib.hid hl
  have HA := Lib.hid HAW
  have HLZ := Lib.hid hlz
  obtain ⟨n, hn⟩ : ∃ n, L.length = n := ⟨_, rfl⟩
  obtain ⟨m, hm⟩ : ∃ m, l.length = m := ⟨_, rfl⟩
  have HN := Lib.hid hn
  have HM := Lib.hid hm
  rw [hn] at HBF HL ⊢
  rw [hm] at HBF HLL ⊢
  clear hL hl hsz hlz hn hm HAW
  go_enter Tryz.func4, Tryz.ntmps4
  go_wp2_with fail
  refine HA.out.mono ?_
  rintro e w1 ⟨rfl, hb1⟩
  obtain ⟨v1, W1, v2, W2, hr1, hr2, hb2, hfew⟩ := HBF.out w1 (HL.out.below hb1) (HLL.out.below hb1)
  have HB2 : Hid (Below w.heap.size w W2) := Lib.hid (hb1.trans (hb2.mono hb1.size))
  have HFW := Lib.hid hfew
  clear hfew hb2 HA HBF
  go_wp2_with (first | (at_builtin; first | (refine wpList_appR rfl (.tmp 23) (.tmp 24) 22 rfl _ _ _ _ rfl rfl hr1 ?_) | (refine wpList_appR rfl (.tmp 25) (.tmp 28) 22 rfl _ _ _ _ rfl rfl hr2 ?_)) | fail)
  refine HFW.out.mono ?_
  rintro e w3 ⟨fb, rfl, hb3, hok⟩
  have HB3 := Lib.hid (HB2.out.trans (hb3.mono HB2.out.size))
  have HOK := Lib.hid hok
  clear hb3 hok hr1 hr2
  cases fb with
  | false =>
    go_wp2
    go_ret
    exact ⟨rfl, HB3.out⟩
  | true =>
  have hk := HOK.out rfl
  have hkL : OkAs L := ⟨by have := hk.1; simp at this; omega, fun a ha => hk.2 a (by simp [ha])⟩
  have hkl : l.length ≤ 30 ∧ ∀ x ∈ l, OkC x := hk.2 ⟨l, false, 0, 0, 0⟩ (by simp)
  have HKL := Lib.hid hkL
  have HKl := Lib.hid hkl
  clear hk hkL hkl
  by_cases h50 : 50 < pre.size
  · have h50i : (50 : Int) < (pre.size : Int) := by omega
    clear h50
    go_wp2
    go_ret
    exact ⟨rfl, HB3.out⟩
  have h50i : ¬ (50 : Int) < (pre.size : Int) := by omega
  obtain ⟨DS, s0, hnew0, hg0, ht0⟩ := HNEW w3 HB3.out
  have HMD := Lib.hid (made_any HJ DS 200 s0 w3 hnew0 hg0 ht0 HB3.out.size)
  clear hnew0
  clear HNEW h50
  go_wp2_with fail
  refine HMD.out.mono ?_
  rintro e w4 ⟨O, S, sb, b, nn, jp, dp, rfl, hn4, hst, hb4, hds, hft⟩
  have HL4 : Hid (Live w.heap.size JS good sb jp 765000 w w4 s0 (fun _ => none)) := Lib.hid ⟨⟨O, S, b, nn, hst, hn4⟩, hg0, small_none, fine_none, HB3.out.trans (hb4.mono HB3.out.size)⟩
  clear hn4 hst hb4 hds hft HMD
  go_wp2
  clear h50i
  have hnb : n ≤ 2513169434900 := by rw [← HN.out]; exact hLn
  go_loopw [9] (fun i wr => ∃ (j : Nat) (s : Sg) (g : ByteArray → Option A), j ≤ n ∧ i = .int .i64 (j : Int) ∧ Hid (Live w.heap.size JS good sb jp (765000 + 30 * j) w wr s g)) (fun i _ => n - (intOf i).toNat)
  case atStart => exact ⟨0, s0, _, Nat.zero_le _, rfl, HL4⟩
  case round =>
    obtain ⟨j, s, g, hj, rfl, HV⟩ := hrel
    by_cases hlt : j < n
    · have hlti : (j : Int) < (n : Int) := by omega
      obtain ⟨a, ha⟩ : ∃ a, L[j]? = some a := ⟨L[j]'(by have := HN.out; omega), List.getElem?_eq_getElem _⟩
      obtain ⟨p', cap', e', _, hrow⟩ := HL.out.below HV.out.below
      simp only [Value.slice.injEq] at e'
      obtain ⟨rfl, hnn, rfl⟩ := e'
      clear hnn
      obtain ⟨bb, oo, lv, rfl, hbb, d0, d1, d2, d3, d4, d5⟩ := hrow j a ha
      obtain ⟨O', S', b', n', hst, hn'⟩ := HV.out.ex
      have hj40 : j ≤ 40 := by have := HKL.out.1; have := HN.out; omega
      have HDO := Lib.hid (does_ok HJ HG O' S' sb b' n' jp s g wr hst HV.out.good HV.out.below.size (by omega) HV.out.small a lv d5 (HKL.out.2 a (List.mem_of_getElem? ha)))
      have HFT := Lib.hid (hst.from HJ)
      have HN' := Lib.hid hn'
      obtain ⟨p9, c9, rfl, _, _⟩ := d5
      clear hrow ha hst hn' hj40
      go_wp2_with fail
      refine HDO.out.mono ?_
      rintro e w5 ⟨O2, S2, b2, n2, c, s2, g2, rfl, hst2, hgood2, hsm2, hstep, hn2, hchg, _⟩
      have HV2 : Hid (Live w.heap.size JS good sb jp (765000 + 30 * (j + 1)) w w5 s2 g2) := Lib.hid ⟨⟨O2, S2, b2, n2, hst2, by have := HN'.out; omega⟩, hgood2, hsm2, step_fine HV.out.fine hstep, below_chg HV.out.below HV.out.below.size HFT.out hchg⟩
      clear hst2 hgood2 hsm2 hstep hn2 hchg HDO d0 d1 d2 d3 d4
      go_wp2
      go_roundw
      case rel => exact ⟨j + 1, s2, g2, by omega, by go_num, HV2⟩
      case measure => simp [intOf]; omega
    · obtain rfl : j = n := by omega
      obtain ⟨O', S', b', n', hst, hn'⟩ := HV.out.ex
      have HK1 := Lib.hid (keys_any { data := #[] } sb b' n' (some jp) S' g (by have := HKL.out.1; have := HN.out; omega) wr hst.at_ hst.map)
      have HST := Lib.hid hst
      have HN6 := Lib.hid hn'
      clear hst hn'
      go_wp2_with fail
      refine HK1.out.mono ?_
      rintro e w5 ⟨kv, ks, rfl, hko, hks, hb5⟩
      have hbw : w.heap.size ≤ wr.heap.size := HV.out.below.size
      have HV5 := Lib.hid (HV.out.more HJ hbw hb5)
      have HKS := Lib.hid hks
      have HSR := Lib.hid hko.strs
      have HCH := Lib.hid (changes_any l (.slice p2 m cap2) w5 (HLL.out.below HV5.out.below) (by have := HKl.out.1; omega) (fun x hx => ⟨(HKl.out.2 x hx).2.1, by have := (HKl.out.2 x hx).1; omega⟩))
      have HKO := Lib.hid hko
      have HB5 := Lib.hid hb5
      clear hko hks hb5 HK1 hbw
      obtain ⟨kp, kc, rfl, hkc, _⟩ := id HSR.out
      go_wp2_with fail
      refine HCH.out.mono ?_
      rintro e w6 ⟨cv, rfl, hcr, hb6⟩
      have HV6 := Lib.hid (HV5.out.more HJ HV5.out.below.size hb6)
      have HSR6 := Lib.hid (HSR.out.below hb6)
      have HBW6 := Lib.hid (HB5.out.trans (hb6.mono HB5.out.size))
      have HB56 := Lib.hid hb6
      have hst6 := HST.out.below HJ HV.out.below.size HBW6.out
      have HCM := Lib.hid (commit_ok HJ HG O' _ sb b' n' jp s g w6 hst6 HV6.out.good HV6.out.below.size (by have := HN6.out; have := HKL.out.1; have := HN.out; omega) HV6.out.small l cv hcr (inCh_ok HLL.out) HKl.out)
      have HFT6 := Lib.hid (hst6.from HJ)
      clear hst6 hb6 HCH
      go_wp2_with fail
      refine HCM.out.mono ?_
      rintro e w7 ⟨O7, S7, b7, n7, c, s7, g7, rfl, hst7, hgood7, hsm7, hcm, hn7, hchg7, _⟩
      have HV7 : Hid (Live w.heap.size JS good sb jp 800000 w w7 s7 g7) := Lib.hid ⟨⟨O7, S7, b7, n7, hst7, by have := HN6.out; have := HKL.out.1; have := HN.out; omega⟩, hgood7, hsm7, commits_fine HV6.out.fine hcm, below_chg HV6.out.below HV6.out.below.size HFT6.out hchg7⟩
      have HCMM := Lib.hid hcm
      have HKO7 := Lib.hid (HKO.out.chg HB56.out hchg7 (HST.out.lt HJ))
      have HSR7 := Lib.hid HKO7.out.strs
      have HK7 := Lib.hid (keysL_any { data := #[] } sb b7 n7 (some jp) S7 g7 (by have := HN6.out; have := HKL.out.1; have := HN.out; omega) w7 hst7.at_ hst7.map)
      clear hst7 hgood7 hsm7 hcm hn7 hchg7 HCM
      go_wp2_with fail
      refine HK7.out.mono ?_
      rintro e w8 ⟨kv8, ks8, rfl, hko8, hks8, hmil, hb8⟩
      have HMIL := Lib.hid hmil
      have HV8 := Lib.hid (HV7.out.more HJ HV7.out.below.size hb8)
      have HKS8 := Lib.hid hks8
      have HSR8 := Lib.hid hko8.strs
      have HSRO := Lib.hid (HSR7.out.below hb8)
      have HL8 := Lib.hid hko8.len
      clear hko8 hks8 hb8 HK7 hmil
      by_cases hc0 : c = 0
      case neg =>
        have hcb : (c != 0) = true := by simpa using hc0
        have hgg := commits_no HG HV6.out.good hc0 HCMM.out
        have heq : ks = ks8 := by
          have h1 := HKS8.out
          rw [hgg] at h1
          exact HKS.out.unique h1
        have HTX := Lib.hid (texts_any ks ks8 _ _ w8 HSRO.out HSR8.out HKO7.out.len HL8.out)
        rw [show sameL ks ks8 = true from decide_eq_true heq] at HTX
        clear hgg heq hc0
        obtain ⟨kp8, kc8, rfl, hkc8, _⟩ := id HSR8.out
        go_wp2_with fail
        refine HTX.out.mono ?_
        rintro e w9 ⟨rfl, hb9⟩
        have HB9 := Lib.hid (HV8.out.below.trans (hb9.mono HV8.out.below.size))
        clear hb9
        go_wp2
        go_ret
        exact ⟨rfl, HB9.out⟩
      subst hc0
      obtain ⟨he0, hg7⟩ := commits_zero HCMM.out
      obtain ⟨kp8, kc8, rfl, hkc8, hrow8⟩ := id HSR8.out
      obtain ⟨q, hq⟩ : ∃ q, ks8.length = q := ⟨_, rfl⟩
      have HQ := Lib.hid hq
      rw [hq] at HSR8 hkc8 ⊢
      have hqm : q ≤ 9223372036854775807 := by rw [← hq]; exact HL8.out
      have HE0 := Lib.hid he0
      have HG7 := Lib.hid hg7
      have HR8 := Lib.hid hrow8
      clear hq he0 hg7 hrow8
      go_wp2
      go_loopw [13] (fun i wr => ∃ (j : Nat), j ≤ q ∧ i = .int .i64 (j : Int) ∧ Hid (Below w8.heap.size w8 wr)) (fun i _ => q - (intOf i).toNat)
      case atStart => exact ⟨0, Nat.zero_le _, rfl, Lib.hid (Below.refl _ _)⟩
      case round =>
        obtain ⟨j2, hj2, rfl, HB⟩ := hrel
        by_cases hlt2 : j2 < q
        · have hlti2 : (j2 : Int) < (q : Int) := by omega
          obtain ⟨x, hx⟩ : ∃ x, ks8[j2]? = some x := ⟨ks8[j2]'(by have := HQ.out; omega), List.getElem?_eq_getElem _⟩
          obtain ⟨b8, o8, rfl, hb8, d8⟩ := HR8.out j2 x hx
          have dd := (HB.out.cell (p := ⟨b8, o8 + j2, none⟩) hb8).trans d8
          have HVr := Lib.hid (HV8.out.more HJ HV8.out.below.size HB.out)
          obtain ⟨Or, Sr, br, nr, hstr, hnr⟩ := HVr.out.ex
          have hsome : (g7 x).isSome = true := ((HKS8.out.2 x).1 (List.mem_of_getElem? hx)).1
          have HGT := Lib.hid (get_any x (by have := HVr.out.small.key x hsome; unfold maxLen; omega) sb br nr (some jp) Sr g7 _ hstr.at_ hstr.map (fun a ha => sm_of_er a 2 (HVr.out.fine x a ha)))
          unfold GetQ at HGT
          rw [hsome] at HGT
          have HX := Lib.hid hx
          clear hstr hnr hsome hx
          go_wp2_with fail
          refine HGT.out.mono ?_
          rintro e wg ⟨gv, rfl, _, hbg⟩
          have HBg := Lib.hid (HB.out.trans (hbg.mono HB.out.size))
          have dg := (hbg.cell (p := ⟨b8, o8 + j2, none⟩) (Nat.lt_of_lt_of_le hb8 HB.out.size)).trans dd
          clear hbg
          by_cases hj0 : j2 = 0
          · subst hj0
            go_wp2
            go_quiet (fail)
            have HBD := Lib.hid (below_dr HBg.out nq)
            go_wp2
            go_roundw
            case rel => exact ⟨1, by omega, by go_num, HBD⟩
            case measure => simp [intOf]; omega
          · obtain ⟨k2, rfl⟩ : ∃ k2, j2 = k2 + 1 := ⟨j2 - 1, by omega⟩
            obtain ⟨y, hy⟩ : ∃ y, ks8[k2]? = some y := ⟨ks8[k2]'(by have := HQ.out; omega), List.getElem?_eq_getElem _⟩
            obtain ⟨b9, o9, e9, hb9, d9⟩ := HR8.out k2 y hy
            simp only [Option.some.injEq, Addr.mk.injEq] at e9
            obtain ⟨rfl, rfl, _⟩ := e9
            have dd9 := (HBg.out.cell (p := ⟨b8, o8 + k2, none⟩) hb8).trans d9
            have hlt9 : y.data.toList < x.data.toList := by
              have h1 := List.pairwise_iff_getElem.1 HKS8.out.1 k2 (k2 + 1) (by have := HQ.out; omega) (by have := HQ.out; omega) (by omega)
              have hx1 := (List.getElem?_eq_some_iff.1 HX.out).2
              have hy1 := (List.getElem?_eq_some_iff.1 hy).2
              rwa [hx1, hy1] at h1
            have hki : ((k2 + 1 : Nat) : Int) - 1 = (k2 : Int) := by omega
            have hk0 : (0 : Int) < ((k2 + 1 : Nat) : Int) := by omega
            have hle : Op.bytesLess x.toList y.toList = false := by
              rw [bytesLess_eq, ByteArray.toList_eq, ByteArray.toList_eq]
              exact decide_eq_false (fun h => List.lt_irrefl _ (List.lt_trans h hlt9))
            have hne : (x.toList == y.toList) = false := strs_ff fun e => by
              rw [e] at hlt9
              exact List.lt_irrefl _ hlt9
            clear hy d9 dd hlt9
            go_wp2
            go_quiet (fail)
            have HBD := Lib.hid (below_dr HBg.out nq)
            go_wp2
            go_roundw
            case rel => exact ⟨k2 + 1 + 1, by omega, by go_num, HBD⟩
            case measure => simp [intOf]; omega
        · obtain rfl : j2 = q := by omega
          have HBQ := HB
          go_wp2
          go_loopw [16, 17] (fun v i wr => ∃ (j : Nat), j ≤ j2 ∧ i = .int .i64 (j : Int) ∧ Hid (OwnS wr w8.heap.size v ((ks8.take j).filter (begB · pre))) ∧ Hid (Below w8.heap.size w8 wr)) (fun _ i _ => j2 - (intOf i).toNat)
          case atStart => exact ⟨0, Nat.zero_le _, rfl, Lib.hid (OwnS.nil _ _), HB⟩
          case round =>
            obtain ⟨j3, hj3, rfl, HO3, HB3'⟩ := hrel
            by_cases hlt3 : j3 < j2
            · have hlti3 : (j3 : Int) < (j2 : Int) := by omega
              obtain ⟨x, hx⟩ : ∃ x, ks8[j3]? = some x := ⟨ks8[j3]'(by have := HQ.out; omega), List.getElem?_eq_getElem _⟩
              obtain ⟨b8, o8, rfl, hb8, d8⟩ := HR8.out j3 x hx
              have dd := (HB3'.out.cell (p := ⟨b8, o8 + j3, none⟩) hb8).trans d8
              have HX := Lib.hid hx
              clear hx d8
              by_cases hps : pre.size ≤ x.size
              · have hpsi : (pre.size : Int) ≤ (x.size : Int) := by omega
                by_cases hpe : x.extract 0 pre.size = pre
                · have hq3 : ((x.extract 0 pre.size).toList == pre.toList) = true := by rw [hpe]; exact beq_self_eq_true _
                  have hbg : begB x pre = true := decide_eq_true ⟨hps, hpe⟩
                  have hfl : ((ks8.take j3).filter (begB · pre)).length ≤ j3 := Nat.le_trans (List.length_filter_le _ _) (by rw [List.length_take]; omega)
                  have HFL := Lib.hid hfl
                  have HTK : Hid ((ks8.take (j3 + 1)).filter (begB · pre) = (ks8.take j3).filter (begB · pre) ++ [x]) := Lib.hid (by
                    rw [take_get HX.out, List.filter_append, List.filter_cons_of_pos (by rw [hbg]), List.filter_nil])
                  clear hbg hpe hfl
                  go_wp2_with (first | (at_builtin; refine wpList_str rfl (.tmp 126) (.tmp 131) rfl wr w8.heap.size u16 _ x rfl rfl HO3.out rfl (by have := HFL.out; have := HMIL.out; have := HQ.out; omega) HB3'.out.size ?_) | fail)
                  intro v5 w5' hO5 _ hB5'
                  have HO5 : Hid (OwnS w5' w8.heap.size v5 ((ks8.take (j3 + 1)).filter (begB · pre))) := Lib.hid (by rw [HTK.out]; exact hO5)
                  have HB5' : Hid (Below w8.heap.size w8 w5') := Lib.hid (HB3'.out.trans hB5')
                  clear hO5 hB5'
                  go_wp2
                  go_roundw
                  case rel => exact ⟨j3 + 1, by omega, by go_num, HO5, HB5'⟩
                  case measure => simp [intOf]; omega
                · have hq3 : ((x.extract 0 pre.size).toList == pre.toList) = false := strs_ff hpe
                  have hbg : begB x pre = false := decide_eq_false fun h => hpe h.2
                  have HO4 : Hid (OwnS wr w8.heap.size u16 ((ks8.take (j3 + 1)).filter (begB · pre))) := Lib.hid (by
                    rw [take_get HX.out, List.filter_append, List.filter_cons_of_neg (by rw [hbg]; decide), List.filter_nil, List.append_nil]
                    exact HO3.out)
                  clear hbg hpe
                  go_wp2
                  go_roundw
                  case rel => exact ⟨j3 + 1, by omega, by go_num, HO4, HB3'⟩
                  case measure => simp [intOf]; omega
              · have hpsi : ¬ (pre.size : Int) ≤ (x.size : Int) := by omega
                have hbg : begB x pre = false := decide_eq_false fun h => hps h.1
                have HO4 : Hid (OwnS wr w8.heap.size u16 ((ks8.take (j3 + 1)).filter (begB · pre))) := Lib.hid (by
                  rw [take_get HX.out, List.filter_append, List.filter_cons_of_neg (by rw [hbg]; decide), List.filter_nil, List.append_nil]
                  exact HO3.out)
                clear hbg hps
                go_wp2
                go_roundw
                case rel => exact ⟨j3 + 1, by omega, by go_num, HO4, HB3'⟩
                case measure => simp [intOf]; omega
            · obtain rfl : j3 = j2 := by omega
              have HOS : Hid (OwnS wr w8.heap.size u16 (ks8.filter (begB · pre))) := Lib.hid (by
                have h := HO3.out
                rwa [List.take_of_length_le (by rw [HQ.out]; exact Nat.le_refl _)] at h)
              have HVw := Lib.hid (HV8.out.more HJ HV8.out.below.size HB3'.out)
              have hall : RisesA g7 (fun _ => true) ks8 := ⟨HKS8.out.1, fun s => by rw [HKS8.out.2 s]; simp only [begB_none]⟩
              obtain ⟨Ow, Sw, bw, nw, hstw, hnw⟩ := HVw.out.ex
              have HKP := Lib.hid (keys_any pre sb bw nw (some jp) Sw g7 (by omega) wr hstw.at_ hstw.map)
              have HFI := Lib.hid (hall.filter (p := (begB · pre)))
              clear hall hstw hnw
              go_wp2_with fail
              refine HKP.out.mono ?_
              rintro e wk ⟨kvp, ksp, rfl, hkop, hksp, hbk⟩
              have heq : ksp = ks8.filter (begB · pre) := hksp.unique HFI.out
              have HVk := Lib.hid (HVw.out.more HJ HVw.out.below.size hbk)
              have HB8k := Lib.hid (HB3'.out.trans (hbk.mono HB3'.out.size))
              have HTX := Lib.hid (texts_any ksp (ks8.filter (begB · pre)) kvp u16 wk hkop.strs (HOS.out.below hbk).strs hkop.len HOS.out.len)
              rw [show sameL ksp (ks8.filter (begB · pre)) = true from decide_eq_true heq] at HTX
              clear heq hkop hksp hbk HKP
              go_wp2_with fail
              refine HTX.out.mono ?_
              rintro e wt ⟨rfl, hbt⟩
              have HVt := Lib.hid (HVk.out.more HJ HVk.out.below.size hbt)
              have HB8t := Lib.hid (HB8k.out.trans (hbt.mono HB8k.out.size))
              clear hbt HTX
              by_cases hm0 : m = 0
              · subst hm0
                have hl0 : l = [] := List.eq_nil_of_length_eq_zero HM.out
                have hgg : g7 = g := by rw [HG7.out, hl0]; rfl
                have hks : ks = ks8 := by
                  have h1 := HKS8.out
                  rw [hgg] at h1
                  exact HKS.out.unique h1
                have HT2 := Lib.hid (texts_any ks ks8 (.slice kp ks.length kc) (.slice kp8 j3 kc8) wt (HSRO.out.below HB8t.out) (by
                  have h := HSR8.out.below HB8t.out
                  exact h) HKO7.out.len HL8.out)
                rw [show sameL ks ks8 = true from decide_eq_true hks] at HT2
                clear hl0 hgg hks
                go_wp2_with fail
                refine HT2.out.mono ?_
                rintro e w9 ⟨rfl, hb9⟩
                have HB9 := Lib.hid (HVt.out.below.trans (hb9.mono HVt.out.below.size))
                clear hb9
                go_wp2
                go_ret
                exact ⟨rfl, HB9.out⟩
              · obtain ⟨k, rfl⟩ : ∃ k, m = k + 1 := ⟨m - 1, by omega⟩
                obtain ⟨x, hx⟩ : ∃ x, l[k]? = some x := ⟨l[k]'(by have := HM.out; omega), List.getElem?_eq_getElem _⟩
                obtain ⟨p8', c8', e8', _, hrl⟩ := HLL.out.below HVt.out.below
                simp only [Value.slice.injEq] at e8'
                obtain ⟨rfl, hll, rfl⟩ := e8'
                clear hll
                obtain ⟨bx, ox, c0, c1, c2, c3, c4, rfl, hbx, g0, g1, g2, g3, g4, g5, g6, g7'⟩ := hrl k x hx
                obtain ⟨vk, vn, vb, vp, vm, vc, rfl, rfl, rfl, rfl, rfl⟩ := holds_parts g7'
                have hmi : ((k + 1 : Nat) : Int) - 1 = (k : Int) := by omega
                have hm1 : ¬ ((k + 1 : Nat) : Int) = 0 := by omega
                have hkb : k < 30 := by have := HKl.out.1; have := HM.out; omega
                have hea : er (trA (l.map chV)) 0 = 0 := HE0.out
                have hokx := HKl.out.2 x (List.mem_of_getElem? hx)
                have hgx : g7 x.1 = (chV x).2 := by
                  rw [HG7.out]
                  have hl : l = l.take k ++ [x] := by
                    rw [← take_get hx, List.take_of_length_le (by rw [HM.out]; exact Nat.le_refl _)]
                  rw [hl, List.map_append, List.foldl_append]
                  show chF _ (chV x) x.1 = _
                  unfold chF
                  exact if_pos rfl
                obtain ⟨Wx, hWx⟩ : ∃ Wx, wt.alloc (.cells #[.string x.1, .int .i64 vk, .int .i64 vn, .string (vS x.2.1), .bool vb, .slice vp vm vc, .bool x.2.2] 61) = Wx := ⟨_, rfl⟩
                have hBx : Below wt.heap.size wt Wx := hWx ▸ (Below.refl _ wt).alloc (Nat.le_refl _) _
                have hNx : Wx.heap[wt.heap.size]? = some (.cells #[.string x.1, .int .i64 vk, .int .i64 vn, .string (vS x.2.1), .bool vb, .slice vp vm vc, .bool x.2.2] 61 (0, 0)) := hWx ▸ heap_alloc_new wt _
                have HVx := Lib.hid (HVt.out.more HJ HVt.out.below.size hBx)
                obtain ⟨Ox, Sx, bxx, nx, hstx, hnx⟩ := HVx.out.ex
                have HGT := Lib.hid (get_any x.1 (by have := hokx.1; unfold maxLen; omega) sb bxx nx (some jp) Sx g7 Wx hstx.at_ hstx.map (fun a ha => sm_of_er a 2 (HVx.out.fine x.1 a ha)))
                rw [hgx] at HGT
                have HHx := Lib.hid (g7'.below hBx)
                have HNx := Lib.hid hNx
                have HOKX := Lib.hid hokx
                have HGX := Lib.hid hgx
                have m0 := cell_at hNx 0
                have m1 := cell_at hNx 1
                have m6 := cell_at hNx 6
                have HERX : Hid (∀ a, (chV x).2 = some a → er a 2 = 0) := Lib.hid ((er_trA hea).2 (chV x) (List.mem_map.2 ⟨x, List.mem_of_getElem? hx, rfl⟩)).2
                clear hx hrl g7' hokx hgx hBx hNx hstx hnx hm0 hea
                obtain ⟨gone, hgone⟩ : ∃ gone, x.2.2 = gone := ⟨_, rfl⟩
                rw [hgone] at m6 g6 HNx hWx
                cases gone with
                | true =>
                  have hc : (chV x).2 = none := by unfold chV; rw [hgone]; rfl
                  unfold GetQ at HGT
                  rw [hc] at HGT
                  clear hc hgone
                  go_wp2_with fail
                  refine HGT.out.mono ?_
                  rintro e wz ⟨zv, rfl, _, hbz⟩
                  have HNz := Lib.hid (keep_at hbz HNx.out)
                  have HBz := Lib.hid (HVx.out.below.trans (hbz.mono HVx.out.below.size))
                  clear hbz m0 m1 m6
                  have m6 := cell_at HNz.out 6
                  go_wp2
                  go_ret
                  exact ⟨rfl, HBz.out⟩
                | false =>
                  have hc : (chV x).2 = some (ofV x.2.1) := by unfold chV; rw [hgone]; rfl
                  unfold GetQ at HGT
                  rw [hc] at HGT HERX
                  have HERO := Lib.hid (HERX.out _ rfl)
                  have HWx := Lib.hid hWx
                  clear hc hgone HERX hWx
                  go_wp2_with fail
                  rw [HWx.out]
                  refine HGT.out.mono ?_
                  rintro e wz ⟨zv, rfl, hhas, hbz⟩
                  have HZV := Lib.hid (hhas _ rfl)
                  have HNz := Lib.hid (keep_at hbz HNx.out)
                  have HBz := Lib.hid (HVx.out.below.trans (hbz.mono HVx.out.below.size))
                  have HOF := Lib.hid (of_any x.2.1 1 _ wz HOKX.out.2.1 (HHx.out.below hbz))
                  clear hbz m0 m1 m6 hhas
                  have m1 := cell_at HNz.out 1
                  have m2 := cell_at HNz.out 2
                  have m3 := cell_at HNz.out 3
                  have m4 := cell_at HNz.out 4
                  have m5 := cell_at HNz.out 5
                  have m6 := cell_at HNz.out 6
                  go_wp2_with fail
                  refine HOF.out.mono ?_
                  rintro e wf ⟨rv, rfl, hrv, hbf⟩
                  have HBf := Lib.hid (HBz.out.trans (hbf.mono HBz.out.size))
                  have HSM := Lib.hid (same_any (ofV x.2.1) (ofV x.2.1) zv rv wf (HZV.out.below hbf) (AAt.keep hrv (fun _ _ _ => trivial) (Nat.le_refl _) (fun _ _ _ => rfl)) (by rw [sz_zero _ HERO.out]; have := sz_two x.2.1 HOKX.out.2.1; omega) (by rw [sz_zero _ HERO.out]; have := sz_two x.2.1 HOKX.out.2.1; omega))
                  rw [show sameB (ofV x.2.1) (ofV x.2.1) = true by unfold sameB; rw [decide_eq_true (er_two _ HERO.out), decide_eq_true rfl]; rfl] at HSM
                  clear hrv hbf HOF
                  go_wp2_with fail
                  refine HSM.out.mono ?_
                  rintro e wl ⟨rfl, hbl⟩
                  have HBl := Lib.hid (HBf.out.trans (hbl.mono HBf.out.size))
                  clear hbl
                  go_wp2
                  go_ret
                  exact ⟨rfl, HBl.out⟩
end
end Go.Proofs.YtlogjpmdfimgdaaGreatDoor

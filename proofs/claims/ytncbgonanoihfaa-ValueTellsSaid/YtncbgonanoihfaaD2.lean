/- The document's told of any value; its Print: by contract. No condition but that the value is small enough. -/
import Derived.Test.YtncbgonanoihfaaD1
import Derived.Test.YtncbgonanoihfaaC2
namespace Go.Proofs.Ytncbgonanoihfaa
open Go.RowKit Go.Own
attribute [-go_sem] run_string_add_if
set_option maxRecDepth 100000 in
set_option maxHeartbeats 1000000 in
theorem told_bool (n : Int) (s : ByteArray) (b : Bool) (l : List V) (d : Nat) (v : Value) (w : World) (hv : Holds w v (.mk 3 n s b l)) :
    Calls Try.prog 26 #[v, .int .i64 (d : Int)] w (ToldQ (.bool b) d w) := by
  obtain ⟨p, cap, hp⟩ := VAt.parts hv
  obtain ⟨rfl, _, _, _, _, _, _⟩ := hp
  have HE : Hid (er (.bool b) d = 0) := Lib.hid rfl
  clear hv
  cases b
  · go_enter Try.func26, Try.ntmps26
    go_wp2
    go_ret2
    exact ⟨by rw [HE.out]; rfl, (Below.refl _ w).alloc (Nat.le_refl _) _⟩
  · go_enter Try.func26, Try.ntmps26
    go_wp2
    go_ret2
    exact ⟨by rw [HE.out]; rfl, (Below.refl _ w).alloc (Nat.le_refl _) _⟩
set_option maxRecDepth 100000 in
set_option maxHeartbeats 1000000 in
theorem told_none (k n : Int) (s : ByteArray) (b : Bool) (l : List V) (d : Nat) (v : Value) (w : World) (hk : k ≠ 1 ∧ k ≠ 2 ∧ k ≠ 3 ∧ k ≠ 4) (hv : Holds w v (.mk k n s b l)) :
    Calls Try.prog 26 #[v, .int .i64 (d : Int)] w (ToldQ .none d w) := by
  obtain ⟨p, cap, hp⟩ := VAt.parts hv
  obtain ⟨rfl, _, _, _, _, _, _⟩ := hp
  have HE : Hid (er .none d = 9) := Lib.hid rfl
  obtain ⟨k1, k2, k3, k4⟩ := hk
  have e1 : (k == 1) = false := by simp [k1]
  have e2 : (k == 2) = false := by simp [k2]
  have e3 : (k == 3) = false := by simp [k3]
  have e4 : (k == 4) = false := by simp [k4]
  clear hv k1 k2 k3 k4
  go_enter Try.func26, Try.ntmps26
  go_wp2
  go_ret2
  exact ⟨by rw [HE.out]; rfl, (Below.refl _ w).alloc (Nat.le_refl _) _⟩
set_option maxRecDepth 100000 in
set_option maxHeartbeats 1000000 in
theorem told_list (n : Int) (s : ByteArray) (b : Bool) (l : List V) (ih : ∀ x ∈ l, ToldB x) (d : Nat) (v : Value) (w : World) (hd : d ≤ 8) (hf : fewV (.mk 4 n s b l) d = true) (hv : Holds w v (.mk 4 n s b l)) (hz : sz (.list (l.map ofV)) d ≤ 140737488355328) :
    Calls Try.prog 26 #[v, .int .i64 (d : Int)] w (ToldQ (.list (l.map ofV)) d w) := by
  obtain ⟨p, cap, hp⟩ := VAt.parts hv
  obtain ⟨rfl, _, _, _, hle, hcap, hsub⟩ := hp
  obtain ⟨_, hf2, hf3⟩ := fewV_parts hf
  obtain ⟨m, hm⟩ : ∃ m, l.length = m := ⟨_, rfl⟩
  rw [hm] at hle hf2 ⊢
  have hml : (l.map ofV).length = m := by rw [List.length_map, hm]
  have hcs : (255 < m) ∨ (m ≤ 255 ∧ 8 ≤ d) ∨ (m ≤ 255 ∧ d < 8) := by omega
  rcases hcs with h | ⟨h, h2⟩ | ⟨h, h2⟩
  · have HE : Hid (er (.list (l.map ofV)) d = 3) := Lib.hid (by rw [er, if_pos (by omega)])
    have d1 : decide ((255 : Int) < (m : Int)) = true := by simp; omega
    clear hv hsub ih hm hf hf3 hml hz
    go_enter Try.func26, Try.ntmps26
    go_wp2
    go_ret2
    exact ⟨by rw [HE.out]; rfl, (Below.refl _ w).alloc (Nat.le_refl _) _⟩
  · have HE : Hid (er (.list (l.map ofV)) d = 3) := Lib.hid (by rw [er, if_pos (by omega)])
    have d1 : decide ((255 : Int) < (m : Int)) = false := by simp; omega
    have d2 : decide ((8 : Int) ≤ (d : Int)) = true := by simp; omega
    clear hv hsub ih hm hf hf3 hml hz
    go_enter Try.func26, Try.ntmps26
    go_wp2
    go_ret2
    exact ⟨by rw [HE.out]; rfl, (Below.refl _ w).alloc (Nat.le_refl _) _⟩
  · have hc : ¬ (255 < (l.map ofV).length ∨ 8 ≤ d) := by omega
    have HE : Hid (er (.list (l.map ofV)) d = ers (l.map ofV) (d + 1)) := Lib.hid (by rw [er, if_neg hc])
    rw [sz, if_neg hc] at hz
    have d1 : decide ((255 : Int) < (m : Int)) = false := by simp; omega
    have d2 : decide ((8 : Int) ≤ (d : Int)) = false := by simp; omega
    have HM := Lib.hid hm
    have HML := Lib.hid hml
    have HSUB := Lib.hid hsub
    have HI := Lib.hid ih
    have HF3 := Lib.hid hf3
    have hcv := conv_one (w.alloc (.cells #[.int .i64 4, .int .i64 n, .string s, .bool b, .slice p m cap] 24)) (w.heap.size + 1) (m : Int) m rfl (by simp)
    have ha := add_run { data := #[108] } (mkS [m]) [108, m] (cat_l _ _) (by rw [mkS_size]; simp [ByteArray.size])
    have HW0 : Hid (Below w.heap.size w ((w.alloc (.cells #[.int .i64 4, .int .i64 n, .string s, .bool b, .slice p m cap] 24)).alloc (.cells #[.int .u8 (m : Int)] 5))) := Lib.hid (((Below.refl _ w).alloc (Nat.le_refl _) _).alloc (by simp) _)
    have HC4 : Hid (((w.alloc (.cells #[.int .i64 4, .int .i64 n, .string s, .bool b, .slice p m cap] 24)).alloc (.cells #[.int .u8 (m : Int)] 5)).cell? ⟨w.heap.size, 4, none⟩ = some (.slice p m cap)) := Lib.hid (by
      rw [Below.cell (B := w.heap.size + 1) ((Below.refl _ _).alloc (by simp) _) (p := ⟨w.heap.size, 4, none⟩) (by simp)]
      exact cell_new _ _ _ _)
    have HZ0 : Hid (((w.alloc (.cells #[.int .i64 4, .int .i64 n, .string s, .bool b, .slice p m cap] 24)).alloc (.cells #[.int .u8 (m : Int)] 5)).heap.size = w.heap.size + 2) := Lib.hid (by simp)
    have HSM : Hid (mkS [108, m] = mkS (108 :: (be 1 m ++ prs ((l.map ofV).take 0)))) := Lib.hid (by simp [be, prs]; rw [Nat.mod_eq_of_lt (by omega)])
    clear hv hsub ih hm hf hf3 hml hc
    go_enter Try.func26, Try.ntmps26
    go_wp2
    generalize (w.alloc (.cells #[.int .i64 4, .int .i64 n, .string s, .bool b, .slice p m cap] 24)).alloc (.cells #[.int .u8 (m : Int)] 5) = W0 at *
    clear hcv ha
    go_loopw [9, 10] (fun t i wr => ∃ (j : Nat) (q : ByteArray), j ≤ m ∧ i = .int .i64 (j : Int) ∧ t = .string q ∧ Hid (q = mkS (108 :: (be 1 m ++ prs ((l.map ofV).take j)))) ∧ Hid (ers ((l.map ofV).take j) (d + 1) = 0) ∧ Hid (Below (w.heap.size + 1) W0 wr)) (fun _ i _ => m - (intOf i).toNat)
    case atStart => exact ⟨0, _, Nat.zero_le _, rfl, rfl, HSM, Lib.hid (by simp [ers]), Lib.hid (Below.refl _ _)⟩
    case round =>
      obtain ⟨j, q, hj, rfl, rfl, HQ, HEJ, HB⟩ := hrel
      have c4 : wr.cell? ⟨w.heap.size, 4, none⟩ = some (.slice p m cap) := by rw [HB.out.cell (p := ⟨w.heap.size, 4, none⟩) (by simp)]; exact HC4.out
      have HBW : Hid (Below w.heap.size w wr) := Lib.hid (HW0.out.trans (HB.out.mono (by omega)))
      have hzr : w.heap.size + 1 ≤ wr.heap.size := by have := HB.out.size; rw [HZ0.out] at this; omega
      by_cases hlt : j < m
      · obtain ⟨x, hx⟩ : ∃ x, l[j]? = some x := ⟨_, List.getElem?_eq_getElem (by rw [HM.out]; exact hlt)⟩
        obtain ⟨g, o, t0, t1, t2, t3, t4, rfl, _, hg, hvx, e0, e1, e2, e3, e4⟩ := HSUB.out j x hx
        have hk : ∀ i, wr.cell? ⟨g, i, none⟩ = w.cell? ⟨g, i, none⟩ := fun i => HBW.out.cell (p := ⟨g, i, none⟩) hg
        rw [← hk] at e0 e1 e2 e3 e4
        have hmx : (l.map ofV)[j]? = some (ofV x) := by simp [hx]
        have HC := Lib.hid (HI.out x (List.mem_of_getElem? hx) (d + 1) _ wr (by omega) (HF3.out x (List.mem_of_getElem? hx)) (Holds.below hvx.holds HBW.out))
        have e1' : (((d + 1 : Nat)) : Int) = (d : Int) + 1 := by omega
        rw [e1'] at HC
        have HPS := Lib.hid (prs_snoc hmx)
        have hle2 := szs_le hmx (d + 1)
        have hlen := prs_len HEJ.out
        by_cases hex : er (ofV x) (d + 1) = 0
        · have HES := Lib.hid (ers_snoc hmx HEJ.out hex)
          have hpl := pr_sz _ _ hex
          have ha := add_run q (mkS (pr (ofV x))) (108 :: (be 1 m ++ prs ((l.map ofV).take j)) ++ pr (ofV x)) (by rw [HQ.out, mkS_append]) (by
            rw [HQ.out, mkS_size, mkS_size, List.length_cons, List.length_append, be_length]; omega)
          have HQ2 : Hid (mkS (108 :: (be 1 m ++ prs ((l.map ofV).take j)) ++ pr (ofV x)) = mkS (108 :: (be 1 m ++ prs ((l.map ofV).take (j + 1))))) := Lib.hid (by rw [HPS.out]; simp)
          unfold ToldQ at HC
          rw [hex, if_pos rfl] at HC
          obtain ⟨q2, hq2⟩ : ∃ q2, mkS (108 :: (be 1 m ++ prs ((l.map ofV).take j)) ++ pr (ofV x)) = q2 := ⟨_, rfl⟩
          obtain ⟨q1, hq1⟩ : ∃ q1, mkS (pr (ofV x)) = q1 := ⟨_, rfl⟩
          rw [hq2] at ha HQ2
          rw [hq1] at ha HC
          clear hx hmx hk hvx hle2 hlen e1' hex hpl hq1 hq2
          go_wp2_with (go_at_call 26; fail)
          refine HC.out.mono ?_
          rintro e w3 ⟨rfl, hb3⟩
          have HB3 : Hid (Below (w.heap.size + 1) W0 w3) := Lib.hid (HB.out.trans (hb3.mono hzr))
          clear hb3
          go_wp2
          go_roundw
          case rel => exact ⟨j + 1, q2, by omega, by go_num, rfl, HQ2, HES, HB3⟩
          case measure => simp [intOf]; omega
        · have HST := Lib.hid (ers_stop hmx HEJ.out hex)
          unfold ToldQ at HC
          rw [if_neg hex] at HC
          obtain ⟨z, hz'⟩ : ∃ z, er (ofV x) (d + 1) = z := ⟨_, rfl⟩
          rw [hz'] at HC HST hex
          have hzb : (z == 0) = false := by simpa using hex
          have hzb2 : (z != 0) = true := by simpa using hex
          have HZ := Lib.hid hex
          clear hx hmx hk hvx hle2 hlen e1' hex hz'
          go_wp2_with (go_at_call 26; fail)
          refine HC.out.mono ?_
          rintro e w3 ⟨rfl, hb3⟩
          have HB3 : Hid (Below w.heap.size w w3) := Lib.hid (HBW.out.trans (hb3.mono (by omega)))
          clear hb3
          go_wp2
          go_ret2
          exact ⟨by rw [HE.out, HST.out, if_neg HZ.out]; rfl, HB3.out⟩
      · obtain rfl : j = m := by omega
        have hfull : (l.map ofV).take j = l.map ofV := List.take_of_length_le (by rw [HML.out]; exact Nat.le_refl _)
        have HE0 : Hid (er (.list (l.map ofV)) d = 0) := Lib.hid (by have h := HEJ.out; rw [hfull] at h; rw [HE.out, h])
        have HT : Hid (q = mkS (pr (.list (l.map ofV)))) := Lib.hid (by rw [HQ.out, hfull, pr, HML.out])
        clear hfull
        go_wp2
        go_ret2
        exact ⟨by rw [HE0.out, if_pos rfl, ← HT.out]; rfl, HBW.out⟩
end Go.Proofs.Ytncbgonanoihfaa

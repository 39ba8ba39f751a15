/- The document's: is one context within another; are two rows of pairs the same? By contract. No condition but the rows' sizes. -/
import Derived.Test.YtfihbfkgkljjdaaD1
namespace Go.Proofs.Ytfihbfkgkljjdaa
open Go.RowKit Go.Own
noncomputable def memB (x : P2) (b : List P2) : Bool := @decide (x ∈ b) (Classical.propDecidable _)
theorem memB_yes {x : P2} {b : List P2} (h : x ∈ b) : memB x b = true := by unfold memB; exact @decide_eq_true _ (Classical.propDecidable _) h
theorem memB_no {x : P2} {b : List P2} (h : x ∉ b) : memB x b = false := by unfold memB; exact @decide_eq_false _ (Classical.propDecidable _) h
theorem memB_in {x : P2} {b : List P2} (h : memB x b = true) : x ∈ b := by
  by_cases h2 : x ∈ b
  · exact h2
  · rw [memB_no h2] at h; cases h
theorem memB_out {x : P2} {b : List P2} (h : memB x b = false) : x ∉ b := fun h2 => by rw [memB_yes h2] at h; cases h
theorem toList_ne {a b : ByteArray} (h : a ≠ b) : ¬ a.toList = b.toList := fun e => by
  rw [ByteArray.toList_eq, ByteArray.toList_eq] at e
  exact h (ByteArray.ext (Array.toList_inj.1 e))
set_option maxRecDepth 100000 in
set_option maxHeartbeats 4000000 in
theorem refSubset_any (A : List P2) (p : Option Addr) (cap : Nat) (hA : A.length ≤ 1000000) (hs : ∀ x ∈ A, x.1.size ≤ 1000000 ∧ x.2.size ≤ 1000000)
    (C : List P2) (q : Option Addr) (qcap : Nat) (hC : C.length ≤ 1000000) (hsC : ∀ x ∈ C, x.1.size ≤ 1000000 ∧ x.2.size ≤ 1000000) (w : World) (hP : PsC w (.slice p A.length cap) A) (hQ : PsC w (.slice q C.length qcap) C) :
    Calls Try.prog 26 #[.slice p A.length cap, .slice q C.length qcap] w fun e w' => e = .returned (.bool (subB A C)) ∧ Below w.heap.size w w' := by
  have HPL := Lib.hid (refRight_any A p cap hA hs w hP)
  have HQL := Lib.hid (fun W (h : PsC W (.slice q C.length qcap) C) => refRight_any C q qcap hC hsC W h)
  obtain ⟨n, hn⟩ : ∃ n, A.length = n := ⟨_, rfl⟩
  obtain ⟨m, hm⟩ : ∃ m, C.length = m := ⟨_, rfl⟩
  have HP := Lib.hid hP
  have HQ := Lib.hid hQ
  rw [hn] at hA HPL ⊢
  rw [hm] at hC HQL HQ ⊢
  have HN := Lib.hid hn
  have HM := Lib.hid hm
  clear hP hQ hn hm hs hsC
  cases hr : rightP A with
  | false =>
    have HE : Hid (subB A C = false) := Lib.hid (by simp [subB, hr])
    rw [hr] at HPL
    clear hr
    go_enter Try.func26, Try.ntmps26
    go_wp2_with fail
    refine HPL.out.mono ?_
    rintro e w1 ⟨rfl, hb⟩
    replace hb := Lib.hid hb
    go_wp2
    go_ret
    exact ⟨by rw [HE.out]; rfl, hb.out⟩
  | true =>
    rw [hr] at HPL
    cases hrC : rightP C with
    | false =>
      have HE : Hid (subB A C = false) := Lib.hid (by simp [subB, hrC])
      rw [hrC] at HQL
      clear hr hrC
      go_enter Try.func26, Try.ntmps26
      go_wp2_with fail
      refine HPL.out.mono ?_
      rintro e w1 ⟨rfl, hb⟩
      replace hb := Lib.hid hb
      go_wp2_with fail
      refine (HQL.out w1 (HQ.out.below hb.out)).mono ?_
      rintro e w2 ⟨rfl, hb2⟩
      replace hb2 := Lib.hid (hb.out.trans (hb2.mono hb.out.size))
      go_wp2
      go_ret
      exact ⟨by rw [HE.out]; rfl, hb2.out⟩
    | true =>
      have HE : Hid (subB A C = inB A C) := Lib.hid (by simp [subB, hr, hrC])
      rw [hrC] at HQL
      clear hr hrC
      go_enter Try.func26, Try.ntmps26
      go_wp2_with fail
      refine HPL.out.mono ?_
      rintro e w1 ⟨rfl, hb⟩
      replace hb := Lib.hid hb
      go_wp2_with fail
      refine (HQL.out w1 (HQ.out.below hb.out)).mono ?_
      rintro e w2 ⟨rfl, hb2⟩
      replace hb2 := Lib.hid (hb.out.trans (hb2.mono hb.out.size))
      go_wp2
      go_loopw [5] (fun i wr => ∃ k : Nat, k ≤ n ∧ i = .int .i64 (k : Int) ∧ Hid (∀ x ∈ A.take k, x ∈ C) ∧ Hid (Below w.heap.size w wr)) (fun i _ => n - (intOf i).toNat)
      case atStart => exact ⟨0, Nat.zero_le _, rfl, Lib.hid (fun x hx => by simp at hx), hb2⟩
      case round =>
        obtain ⟨i, hi, rfl, HI, HB⟩ := hrel
        obtain ⟨wo, rfl⟩ : ∃ wo : World, wo = wr := ⟨_, rfl⟩
        by_cases hlt : i < n
        · obtain ⟨x, hx⟩ : ∃ x, A[i]? = some x := ⟨_, List.getElem?_eq_getElem (by rw [HN.out]; exact hlt)⟩
          have HX := Lib.hid hx
          have hii : (i : Int) < n := by omega
          clear hx
          go_wp2
          go_loopw [6, 7] (fun t j wi => ∃ k : Nat, k ≤ m ∧ j = .int .i64 (k : Int) ∧ t = .bool (memB x (C.take k)) ∧ Hid (Below w.heap.size w wi)) (fun _ j _ => m - (intOf j).toNat)
          case atStart => exact ⟨0, Nat.zero_le _, rfl, by rw [memB_no (by simp)], HB⟩
          case round =>
            obtain ⟨k, hk, rfl, rfl, HB2⟩ := hrel
            by_cases hkm : k < m
            · obtain ⟨y, hy⟩ : ∃ y, C[k]? = some y := ⟨_, List.getElem?_eq_getElem (by rw [HM.out]; exact hkm)⟩
              obtain ⟨b, o, rfl, c0, c1⟩ := (HP.out.below HB2.out).at HX.out
              obtain ⟨b2, o2, rfl, d0, d1⟩ := (HQ.out.below HB2.out).at hy
              have hkk : (k : Int) < m := by omega
              have HT := Lib.hid (take_succ_at C k y hy)
              cases hmb : memB x (C.take k) with
              | true =>
                have HM2 : Hid (memB x (C.take (k + 1)) = true) := Lib.hid (memB_yes (by rw [HT.out]; exact List.mem_append.2 (Or.inl (memB_in hmb))))
                clear hy hmb
                go_wp2
                go_quiet (fail)
                go_wp2
                go_roundw
                case rel => exact ⟨k + 1, by omega, by go_num, by rw [HM2.out], Lib.hid (below_drewN HB2.out _)⟩
                case measure => simp [intOf]; omega
              | false =>
                have hl1 : ∀ z, (Instr.loadAt 42 (.pointer (some ⟨b, o + i * 2, none⟩))).run Try.prog (wr.drewN z) = .ok (.agg #[.string x.1, .string x.2]) (wr.drewN z) := fun z => ld_pair _ (by kernel_rfl) (by kernel_rfl) c0 c1
                have hl2 : ∀ z, (Instr.loadAt 42 (.pointer (some ⟨b2, o2 + k * 2, none⟩))).run Try.prog (wr.drewN z) = .ok (.agg #[.string y.1, .string y.2]) (wr.drewN z) := fun z => ld_pair _ (by kernel_rfl) (by kernel_rfl) d0 d1
                by_cases h1 : x.1 = y.1
                · by_cases h2 : x.2 = y.2
                  · have hxy : x = y := Prod.ext h1 h2
                    have HM2 : Hid (memB x (C.take (k + 1)) = true) := Lib.hid (memB_yes (by rw [HT.out, hxy]; simp))
                    rw [← h1, ← h2] at hl2
                    rw [← h1] at d0
                    rw [← h2] at d1
                    clear hy hmb hxy h1 h2
                    go_wp2
                    go_quiet (fail)
                    go_wp2
                    go_roundw
                    case rel => exact ⟨k + 1, by omega, by go_num, by rw [HM2.out], Lib.hid (below_drewN HB2.out _)⟩
                    case measure => simp [intOf]; omega
                  · have HM2 : Hid (memB x (C.take (k + 1)) = false) := Lib.hid (memB_no (by
                      rw [HT.out, List.mem_append]
                      rintro (h | h)
                      · exact memB_out hmb h
                      · exact h2 (by rw [List.mem_singleton.1 h])))
                    have hv := toList_ne h2
                    rw [← h1] at hl2 d0
                    clear hy hmb h1 h2
                    go_wp2
                    go_quiet (fail)
                    go_wp2
                    go_roundw
                    case rel => exact ⟨k + 1, by omega, by go_num, by rw [HM2.out], Lib.hid (below_drewN HB2.out _)⟩
                    case measure => simp [intOf]; omega
                · have HM2 : Hid (memB x (C.take (k + 1)) = false) := Lib.hid (memB_no (by
                    rw [HT.out, List.mem_append]
                    rintro (h | h)
                    · exact memB_out hmb h
                    · exact h1 (by rw [List.mem_singleton.1 h])))
                  have hv := toList_ne h1
                  clear hy hmb h1
                  go_wp2
                  go_quiet (fail)
                  go_wp2
                  go_roundw
                  case rel => exact ⟨k + 1, by omega, by go_num, by rw [HM2.out], Lib.hid (below_drewN HB2.out _)⟩
                  case measure => simp [intOf]; omega
            · obtain rfl : k = m := by omega
              have hCt : C.take k = C := by rw [List.take_of_length_le (by rw [HM.out]; exact Nat.le_refl _)]
              rw [hCt]
              cases hmb : memB x C with
              | true =>
                have HI2 : Hid (∀ y ∈ A.take (i + 1), y ∈ C) := Lib.hid (by
                  rw [take_succ_at A i x HX.out]
                  intro y hy
                  rcases List.mem_append.1 hy with h | h
                  · exact HI.out y h
                  · rw [List.mem_singleton.1 h]; exact memB_in hmb)
                clear hCt hmb
                go_wp2
                go_roundw
                case rel => exact ⟨i + 1, by omega, by go_num, HI2, HB2⟩
                case measure => simp [intOf]; omega
              | false =>
                have HZ : Hid (subB A C = false) := Lib.hid (by rw [HE.out]; exact inB_no (List.mem_of_getElem? HX.out) (memB_out hmb))
                clear hCt hmb
                go_wp2
                go_ret
                exact ⟨by rw [HZ.out]; rfl, HB2.out⟩
        · obtain rfl : i = n := by omega
          have HZ : Hid (subB A C = true) := Lib.hid (by rw [HE.out]; refine inB_yes fun x hx => HI.out x ?_; rw [List.take_of_length_le (by rw [HN.out]; exact Nat.le_refl _)]; exact hx)
          go_wp2
          go_ret
          exact ⟨by rw [HZ.out]; rfl, HB.out⟩
end Go.Proofs.Ytfihbfkgkljjdaa

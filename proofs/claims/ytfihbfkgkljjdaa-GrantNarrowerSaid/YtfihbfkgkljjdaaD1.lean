/- The document's: is a row of pairs a context? By contract. No condition but the row's sizes. -/
import Derived.Test.YtfihbfkgkljjdaaC4
namespace Go.Proofs.Ytfihbfkgkljjdaa
open Go.RowKit Go.Own
theorem str_tt (a : ByteArray) : (a.toList == a.toList) = true := beq_self_eq_true _
theorem str_ne {a b : ByteArray} (h : a ≠ b) : (a.toList == b.toList) = false := by
  rw [ByteArray.toList_eq, ByteArray.toList_eq]
  exact beq_eq_false_iff_ne.2 fun e => h (ByteArray.ext (Array.toList_inj.1 e))
set_option maxRecDepth 100000 in
set_option maxHeartbeats 2000000 in
theorem refRight_any (L : List P2) (p : Option Addr) (cap : Nat) (hL : L.length ≤ 1000000) (hs : ∀ x ∈ L, x.1.size ≤ 1000000 ∧ x.2.size ≤ 1000000) (w : World) (hP : PsC w (.slice p L.length cap) L) :
    Calls Try.prog 22 #[.slice p L.length cap] w fun e w' => e = .returned (.bool (rightP L)) ∧ Below w.heap.size w w' := by
  obtain ⟨n, hn⟩ : ∃ n, L.length = n := ⟨_, rfl⟩
  rw [hn] at hL ⊢
  have HN := Lib.hid hn
  have HP := Lib.hid hP
  have HS := Lib.hid hs
  clear hn hP hs
  by_cases h8 : n ≤ 8
  · have h8' : ¬ (8 : Int) < (n : Int) := by omega
    go_enter Try.func22, Try.ntmps22
    go_wp2
    go_loopw [3] (fun i wr => ∃ k : Nat, k ≤ n ∧ i = .int .i64 (k : Int) ∧ Hid (OkTo L k) ∧ Hid (Below w.heap.size w wr)) (fun i _ => n - (intOf i).toNat)
    case atStart => exact ⟨0, Nat.zero_le _, rfl, Lib.hid (OkTo.zero L), Lib.hid (Below.refl _ _)⟩
    case round =>
      obtain ⟨i, hi, rfl, HO, HB⟩ := hrel
      obtain ⟨wo, rfl⟩ : ∃ wo : World, wo = wr := ⟨_, rfl⟩
      by_cases hlt : i < n
      · obtain ⟨x, hx⟩ : ∃ x, L[i]? = some x := ⟨_, List.getElem?_eq_getElem (by rw [HN.out]; exact hlt)⟩
        obtain ⟨b, o, rfl, c0, c1⟩ := (HP.out.below HB.out).at hx
        have hsx := HS.out x (List.mem_of_getElem? hx)
        obtain ⟨hs1, hs2⟩ := hsx
        have hii : (i : Int) < n := by omega
        have hc : x.1.size < 1 ∨ (1 ≤ x.1.size ∧ 32 < x.1.size) ∨ (1 ≤ x.1.size ∧ x.1.size ≤ 32 ∧ 64 < x.2.size) ∨ (1 ≤ x.1.size ∧ x.1.size ≤ 32 ∧ x.2.size ≤ 64) := by omega
        rcases hc with h | ⟨h, h'⟩ | ⟨h, h', h''⟩ | ⟨h, h', h''⟩
        · have HZ : Hid (rightP L = false) := Lib.hid (not_right_fit hx (by simp only [fitP, Bool.and_eq_false_iff, decide_eq_false_iff_not]; omega))
          have q1 : decide ((x.1.size : Int) < 1) = true := by simp; omega
          clear hx h
          go_wp2
          go_ret
          exact ⟨by rw [HZ.out]; rfl, HB.out⟩
        · have HZ : Hid (rightP L = false) := Lib.hid (not_right_fit hx (by simp only [fitP, Bool.and_eq_false_iff, decide_eq_false_iff_not]; omega))
          have q1 : decide ((x.1.size : Int) < 1) = false := by simp; omega
          have q2 : decide ((32 : Int) < (x.1.size : Int)) = true := by simp; omega
          clear hx h
          go_wp2
          go_ret
          exact ⟨by rw [HZ.out]; rfl, HB.out⟩
        · have HZ : Hid (rightP L = false) := Lib.hid (not_right_fit hx (by simp only [fitP, Bool.and_eq_false_iff, decide_eq_false_iff_not]; omega))
          have q1 : decide ((x.1.size : Int) < 1) = false := by simp; omega
          have q2 : decide ((32 : Int) < (x.1.size : Int)) = false := by simp; omega
          have q3 : decide ((64 : Int) < (x.2.size : Int)) = true := by simp; omega
          clear hx h
          go_wp2
          go_ret
          exact ⟨by rw [HZ.out]; rfl, HB.out⟩
        · have hfit : fitP x = true := by simp only [fitP, Bool.and_eq_true, decide_eq_true_eq]; omega
          have q1 : decide ((x.1.size : Int) < 1) = false := by simp; omega
          have q2 : decide ((32 : Int) < (x.1.size : Int)) = false := by simp; omega
          have q3 : decide ((64 : Int) < (x.2.size : Int)) = false := by simp; omega
          have HF := Lib.hid hfit
          have HX := Lib.hid hx
          clear hx hfit h
          go_wp2
          clear q1 q2 q3 c0 c1
          go_loopw [4] (fun j wi => ∃ k : Nat, k ≤ i ∧ j = .int .i64 (k : Int) ∧ Hid (kl x ∉ (L.take k).map kl) ∧ Hid (Below w.heap.size w wi)) (fun j _ => i - (intOf j).toNat)
          case atStart => exact ⟨0, Nat.zero_le _, rfl, Lib.hid (by simp), HB⟩
          case round =>
            obtain ⟨k, hk, rfl, HK, HB2⟩ := hrel
            by_cases hki : k < i
            · obtain ⟨y, hy⟩ : ∃ y, L[k]? = some y := ⟨_, List.getElem?_eq_getElem (by rw [HN.out]; omega)⟩
              obtain ⟨b', o', e1, d0, _⟩ := (HP.out.below HB2.out).at hy
              obtain ⟨b'', o'', e2, g0, _⟩ := (HP.out.below HB2.out).at HX.out
              simp only [Option.some.injEq, Addr.mk.injEq] at e1 e2
              obtain ⟨rfl, rfl, _⟩ := e1
              obtain ⟨rfl, rfl, _⟩ := e2
              have hkk : (k : Int) < (i : Int) := by omega
              have hkn : (k : Int) < n := by omega
              by_cases hyx : y.1 = x.1
              · have HZ : Hid (rightP L = false) := Lib.hid (not_right_twice HX.out (List.mem_map.2 ⟨y, List.mem_of_getElem? (i := k) (by rw [List.getElem?_take_of_lt hki]; exact hy), by unfold kl; rw [hyx]⟩))
                rw [hyx] at d0
                clear hy hyx
                go_wp2
                go_quiet (fail)
                go_wp2
                go_ret
                exact ⟨by rw [HZ.out]; rfl, below_drewN HB2.out _⟩
              · have hst := str_ne hyx
                have HK2 : Hid (kl x ∉ (L.take (k + 1)).map kl) := Lib.hid (by
                  rw [take_succ_at L k y hy, List.map_append, List.mem_append]
                  rintro (h | h)
                  · exact HK.out h
                  · simp at h
                    exact hyx (kl_inj h.symm))
                clear hy hyx
                go_wp2
                go_quiet (fail)
                go_wp2
                go_roundw
                case rel => exact ⟨k + 1, by omega, by go_num, HK2, Lib.hid (below_drewN HB2.out _)⟩
                case measure => simp [intOf]; omega
            · obtain rfl : k = i := by omega
              have HO2 := Lib.hid (HO.out.succ HX.out HF.out HK.out)
              go_wp2
              go_roundw
              case rel => exact ⟨k + 1, by omega, by go_num, HO2, HB2⟩
              case measure => simp [intOf]; omega
      · obtain rfl : i = n := by omega
        have HZ : Hid (rightP L = true) := Lib.hid ((show OkTo L L.length by rw [HN.out]; exact HO.out).all (by rw [HN.out]; exact h8))
        go_wp2
        go_ret
        exact ⟨by rw [HZ.out]; rfl, HB.out⟩
  · have h8' : (8 : Int) < (n : Int) := by omega
    have HZ : Hid (rightP L = false) := Lib.hid (not_right_long (by rw [HN.out]; omega))
    go_enter Try.func22, Try.ntmps22
    go_wp2
    go_ret
    exact ⟨by rw [HZ.out]; rfl, Below.refl _ _⟩
end Go.Proofs.Ytfihbfkgkljjdaa

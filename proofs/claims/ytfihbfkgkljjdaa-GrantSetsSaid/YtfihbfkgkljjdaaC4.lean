/- Contexts: is one within another, are two equal, by contract. No condition but the rows' sizes. -/
import Derived.Test.YtfihbfkgkljjdaaC1
import Derived.Maps.OwnSet
import Derived.BigQuiet
import Derived.Deep.QuietTactic
namespace Go.Proofs.Ytfihbfkgkljjdaa
open Go.RowKit Go.Own Go.Maps Go.WideMaps
/-- Are all of one's pairs another one's? -/
noncomputable def inB (a b : List P2) : Bool := @decide (∀ x ∈ a, x ∈ b) (Classical.propDecidable _)
theorem inB_yes {a b : List P2} (h : ∀ x ∈ a, x ∈ b) : inB a b = true := by unfold inB; exact @decide_eq_true _ (Classical.propDecidable _) h
theorem inB_no {a b : List P2} {x : P2} (h : x ∈ a) (h2 : x ∉ b) : inB a b = false := by unfold inB; exact @decide_eq_false _ (Classical.propDecidable _) (fun h3 => h2 (h3 x h))
noncomputable def subB (a b : List P2) : Bool := rightP a && rightP b && inB a b
theorem below_drewN {B : Nat} {w w' : World} (h : Below B w w') (k : Nat) : Below B w (w'.drewN k) := ⟨h.os, h.tape, h.output, h.size, h.block⟩
theorem cell_old {w : World} {o : Obj} {b j : Nat} {v : Value} (h : w.cell? ⟨b, j, none⟩ = some v) : (w.alloc o).cell? ⟨b, j, none⟩ = some v := by
  have hb : b < w.heap.size := World.block_lt_of_cell? w _ h
  rw [((Below.refl w.heap.size w).alloc (Nat.le_refl _) o).cell (p := ⟨b, j, none⟩) hb]
  exact h
set_option maxRecDepth 100000 in
set_option maxHeartbeats 2000000 in
theorem subset_any (A : List P2) (p : Option Addr) (cap : Nat) (hA : A.length ≤ 1000000) (hs : ∀ x ∈ A, x.1.size ≤ 1000000 ∧ x.2.size ≤ 1000000)
    (C : List P2) (q : Option Addr) (qcap : Nat) (hC : C.length ≤ 1000000) (hsC : ∀ x ∈ C, x.1.size ≤ 1000000 ∧ x.2.size ≤ 1000000) (w : World) (hP : PsC w (.slice p A.length cap) A) (hQ : PsC w (.slice q C.length qcap) C) :
    Calls Try.prog 34 #[.slice p A.length cap, .slice q C.length qcap] w fun e w' => e = .returned (.bool (subB A C)) ∧ Below w.heap.size w w' := by
  have HPL := Lib.hid (places_any A p cap hA hs w hP)
  have HQL := Lib.hid (fun W (h : PsC W (.slice q C.length qcap) C) => places_any C q qcap hC hsC W h)
  obtain ⟨n, hn⟩ : ∃ n, A.length = n := ⟨_, rfl⟩
  obtain ⟨m, hm⟩ : ∃ m, C.length = m := ⟨_, rfl⟩
  rw [hn] at hA HPL ⊢
  rw [hm] at hC HQL ⊢
  have HP := Lib.hid hP
  have HQ := Lib.hid hQ
  have HN := Lib.hid hn
  have HM := Lib.hid hm
  have HSA := Lib.hid hs
  clear hP hQ hn hm hs hsC
  cases hr : rightP A with
  | false =>
    have HE : Hid (subB A C = false) := Lib.hid (by simp [subB, hr])
    have HR := Lib.hid hr
    clear hr
    go_enter Try.func34, Try.ntmps34
    go_wp2_with fail
    refine HPL.out.mono ?_
    rintro e w1 ⟨hb, ⟨_, rfl⟩ | ⟨h2, _⟩⟩
    · replace hb := Lib.hid hb
      go_wp2
      go_ret
      exact ⟨by rw [HE.out]; rfl, hb.out⟩
    · rw [HR.out] at h2; cases h2
  | true =>
    have HR := Lib.hid hr
    clear hr
    go_enter Try.func34, Try.ntmps34
    go_wp2_with fail
    refine HPL.out.mono ?_
    rintro e w1 ⟨hb, ⟨h2, _⟩ | ⟨_, B0, _, rfl, _⟩⟩
    · rw [HR.out] at h2; cases h2
    have HQ1 := Lib.hid (HQ.out.below hb)
    have HP1 := Lib.hid (HP.out.below hb)
    replace hb := Lib.hid hb
    cases hrC : rightP C with
    | false =>
      have HE : Hid (subB A C = false) := Lib.hid (by simp [subB, hrC])
      have HRC := Lib.hid hrC
      clear hrC
      go_wp2_with fail
      refine (HQL.out w1 (by have := HQ1.out; rwa [HM.out] at this)).mono ?_
      rintro e w2 ⟨hb2, ⟨_, rfl⟩ | ⟨h2, _⟩⟩
      · replace hb2 := Lib.hid (hb.out.trans (hb2.mono hb.out.size))
        go_wp2
        go_ret
        exact ⟨by rw [HE.out]; rfl, hb2.out⟩
      · rw [HRC.out] at h2; cases h2
    | true =>
      have HRC := Lib.hid hrC
      have HRR := Lib.hid ((rightP_iff C).1 hrC)
      have HE : Hid (subB A C = inB A C) := Lib.hid (by simp [subB, hrC, HR.out])
      clear hrC
      go_wp2_with fail
      refine (HQL.out w1 (by have := HQ1.out; rwa [HM.out] at this)).mono ?_
      rintro e w2 ⟨hb2, ⟨h2, _⟩ | ⟨_, B, hB, rfl, hown⟩⟩
      · rw [HRC.out] at h2; cases h2
      have HP2 := Lib.hid (HP1.out.below hb2)
      have HQ2 := Lib.hid (HQ1.out.below hb2)
      replace hb2 := Lib.hid (hb.out.trans (hb2.mono hb.out.size))
      have HOWN := Lib.hid hown
      have hBs : B < w2.heap.size := hown.lt
      clear hown
      go_wp2
      go_loopw [29] (fun i wr => ∃ (j : Nat), j ≤ n ∧ i = .int .i64 (j : Int) ∧ Hid (∀ x ∈ A.take j, x ∈ C) ∧ Hid (Below w2.heap.size w2 wr)) (fun i _ => n - (intOf i).toNat)
      case atStart => exact ⟨0, Nat.zero_le _, rfl, Lib.hid (fun x hx => by simp at hx), Lib.hid (Below.refl _ _)⟩
      case round =>
        obtain ⟨j, hj, rfl, HI, HB⟩ := hrel
        by_cases hlt : j < n
        · obtain ⟨x, hx⟩ : ∃ x, A[j]? = some x := ⟨_, List.getElem?_eq_getElem (by rw [HN.out]; exact hlt)⟩
          obtain ⟨b, o, rfl, c0, c1⟩ := (HP2.out.below HB.out).at hx
          have hsx := HSA.out x (List.mem_of_getElem? hx)
          have hkey : keyOf Try.prog 9 (.string x.1) = some (.string x.1.data.toList) := keyOf_string_mk Try.underlying9 (by unfold maxLen; omega)
          have hown := own_below HOWN.out HB.out hBs
          have hhas := mpD_has C (kl x) m (by rw [HM.out]; exact Nat.le_refl _)
          rw [show C.take m = C from by rw [← HM.out, List.take_length]] at hhas
          have hji : (j : Int) < n := by omega
          by_cases htw : kl x ∈ C.map kl
          · rw [decide_eq_true htw] at hhas
            unfold kl at hhas
            obtain ⟨y, hy, hyk⟩ := List.mem_map.1 htw
            obtain ⟨i, hi⟩ := mem_place hy
            have him : i < m := by rw [← HM.out]; exact (List.getElem?_eq_some_iff.1 hi).1
            have HAT := Lib.hid (mpD_at C (.lit (.int .i64 0)) i y hi m him (by rw [HM.out]; exact Nat.le_refl _) (by rw [← HM.out, List.take_length]; exact HRR.out.2.2))
            rw [hyk] at HAT
            obtain ⟨b2, o2, rfl, d0, d1⟩ := (HQ2.out.below HB.out).at hi
            have hy1 : y.1 = x.1 := kl_inj hyk
            rw [hy1] at d0
            have hiim : (i : Int) < m := by omega
            have e0 := cell_old (o := .cells #[.string x.1, .string x.2] 42) d0
            have e1 := cell_old (o := .cells #[.string x.1, .string x.2] 42) d1
            clear d0 d1
            by_cases hv : y.2 = x.2
            · rw [hv] at e1
              have hyx : y = x := Prod.ext hy1 hv
              have HN2 : Hid (∀ z ∈ A.take (j + 1), z ∈ C) := Lib.hid (by
                rw [take_succ_at A j x hx]
                intro z hz
                rcases List.mem_append.1 hz with h | h
                · exact HI.out z h
                · rw [List.mem_singleton.1 h, ← hyx]; exact hy)
              clear hx htw hy hi hyk hy1 hv hyx
              go_wp2_with (at_lookup; refine wpList_lookup_own_ok_int _ rfl _ _ 78 rfl 9 3 .i64 law9 Try.underlying78 Try.underlying3 (zero3 _) B m _ rfl (hown.alloc _) _ _ rfl hkey ?_)
              intro c hat _
              obtain rfl : c = (i : Int) := by
                have := HAT.out.symm.trans hat
                simpa using this.symm
              clear hat
              go_wp2
              have hl1 : ∀ k, (Instr.loadAt 42 (.pointer (some ⟨b2, o2 + i * 2, none⟩))).run Try.prog ((wr.alloc (.cells #[.string x.1, .string x.2] 42)).drewN k) = .ok (.agg #[.string x.1, .string x.2]) ((wr.alloc (.cells #[.string x.1, .string x.2] 42)).drewN k) := fun k => ld_pair _ (by kernel_rfl) (by kernel_rfl) e0 e1
              have hl2 : ∀ k, (Instr.loadAt 42 (.pointer (some ⟨wr.heap.size, 0, none⟩))).run Try.prog ((wr.alloc (.cells #[.string x.1, .string x.2] 42)).drewN k) = .ok (.agg #[.string x.1, .string x.2]) ((wr.alloc (.cells #[.string x.1, .string x.2] 42)).drewN k) := fun k => ld_pair _ (by kernel_rfl) (by kernel_rfl) (cell_new _ _ _ _) (cell_new _ _ _ _)
              go_quiet (fail)
              go_wp2
              go_roundw
              case rel => exact ⟨j + 1, by omega, by go_num, HN2, Lib.hid (below_drewN (HB.out.alloc HB.out.size _) _)⟩
              case measure => simp [intOf]; omega
            · have HZ : Hid (subB A C = false) := Lib.hid (by
                rw [HE.out]
                refine inB_no (List.mem_of_getElem? hx) (fun h => hv ?_)
                rw [nodup_inj HRR.out.2.2 hy h hyk])
              have hvl : ¬ y.2.toList = x.2.toList := fun h => hv (by
                rw [ByteArray.toList_eq, ByteArray.toList_eq] at h
                exact ByteArray.ext (Array.toList_inj.1 h))
              clear hx htw hy hi hyk hy1 hv
              go_wp2_with (at_lookup; refine wpList_lookup_own_ok_int _ rfl _ _ 78 rfl 9 3 .i64 law9 Try.underlying78 Try.underlying3 (zero3 _) B m _ rfl (hown.alloc _) _ _ rfl hkey ?_)
              intro c hat _
              obtain rfl : c = (i : Int) := by
                have := HAT.out.symm.trans hat
                simpa using this.symm
              clear hat
              go_wp2
              have hl1 : ∀ k, (Instr.loadAt 42 (.pointer (some ⟨b2, o2 + i * 2, none⟩))).run Try.prog ((wr.alloc (.cells #[.string x.1, .string x.2] 42)).drewN k) = .ok (.agg #[.string x.1, .string y.2]) ((wr.alloc (.cells #[.string x.1, .string x.2] 42)).drewN k) := fun k => ld_pair _ (by kernel_rfl) (by kernel_rfl) e0 e1
              have hl2 : ∀ k, (Instr.loadAt 42 (.pointer (some ⟨wr.heap.size, 0, none⟩))).run Try.prog ((wr.alloc (.cells #[.string x.1, .string x.2] 42)).drewN k) = .ok (.agg #[.string x.1, .string x.2]) ((wr.alloc (.cells #[.string x.1, .string x.2] 42)).drewN k) := fun k => ld_pair _ (by kernel_rfl) (by kernel_rfl) (cell_new _ _ _ _) (cell_new _ _ _ _)
              go_quiet (fail)
              go_wp2
              go_ret
              exact ⟨by rw [HZ.out]; rfl, hb2.out.trans ((below_drewN (HB.out.alloc HB.out.size _) _).mono hb2.out.size)⟩
          · rw [decide_eq_false htw] at hhas
            unfold kl at hhas
            have HZ : Hid (subB A C = false) := Lib.hid (by rw [HE.out]; exact inB_no (List.mem_of_getElem? hx) (fun h => htw (List.mem_map_of_mem h)))
            clear hx htw
            go_wp2_with (at_lookup; refine wpList_lookup_own_ok_int _ rfl _ _ 78 rfl 9 3 .i64 law9 Try.underlying78 Try.underlying3 (zero3 _) B m _ rfl (hown.alloc _) _ _ rfl hkey ?_; intro c hat _; clear hat)
            go_quiet (fail)
            go_wp2
            go_ret
            exact ⟨by rw [HZ.out]; rfl, hb2.out.trans ((below_drewN (HB.out.alloc HB.out.size _) _).mono hb2.out.size)⟩
        · obtain rfl : j = n := by omega
          have HZ : Hid (subB A C = true) := Lib.hid (by rw [HE.out]; refine inB_yes fun x hx => HI.out x ?_; rw [List.take_of_length_le (by rw [HN.out]; exact Nat.le_refl _)]; exact hx)
          go_wp2
          go_ret
          exact ⟨by rw [HZ.out]; rfl, hb2.out.trans (HB.out.mono hb2.out.size)⟩
end Go.Proofs.Ytfihbfkgkljjdaa

/- Are pairs few and short enough? By contract. No condition but that each string is one that fits. -/
import Derived.Test.YtfihbfkgkljjdaaC1
namespace Go.Own
open Go
def shortP (x : P2) : Bool := decide (x.1.size ≤ 200) && decide (x.2.size ≤ 200)
/-- Are pairs few and short enough? -/
def fewB (L : List P2) : Bool := decide (L.length ≤ 20) && L.all shortP
theorem fewB_iff (L : List P2) : fewB L = true ↔ L.length ≤ 20 ∧ ∀ x ∈ L, x.1.size ≤ 200 ∧ x.2.size ≤ 200 := by
  simp only [fewB, shortP, Bool.and_eq_true, decide_eq_true_eq, List.all_eq_true]
theorem few_not {L : List P2} {k : Nat} {x : P2} (hx : L[k]? = some x) (h : 200 < x.1.size ∨ 200 < x.2.size) : fewB L = false := by
  cases h2 : fewB L with
  | false => rfl
  | true => have := ((fewB_iff L).1 h2).2 x (List.mem_of_getElem? hx); omega
theorem few_long {L : List P2} (h : 20 < L.length) : fewB L = false := by
  cases h2 : fewB L with
  | false => rfl
  | true => have := ((fewB_iff L).1 h2).1; omega
end Go.Own
namespace Go.Proofs.Ytfihbfkgkljjdaa
open Go.RowKit Go.Own
set_option maxRecDepth 100000 in
set_option maxHeartbeats 1000000 in
theorem few_any (L : List P2) (p : Option Addr) (cap : Nat) (hL : L.length ≤ 9223372036854775807) (hs : ∀ x ∈ L, x.1.size ≤ 9223372036854775807 ∧ x.2.size ≤ 9223372036854775807) (w : World) (hP : PsC w (.slice p L.length cap) L) :
    Calls Try.prog 7 #[.slice p L.length cap] w fun e w' => e = .returned (.bool (fewB L)) ∧ w = w' := by
  obtain ⟨n, hn⟩ : ∃ n, L.length = n := ⟨_, rfl⟩
  rw [hn] at hL ⊢
  have HN := Lib.hid hn
  have HP := Lib.hid hP
  have HS := Lib.hid hs
  clear hn hP hs
  go_enter Try.func7, Try.ntmps7
  go_wp2
  go_loop [3] (fun i => ∃ k : Nat, k ≤ n ∧ k ≤ 20 ∧ i = .int .i64 (k : Int) ∧ Hid (∀ x ∈ L.take k, x.1.size ≤ 200 ∧ x.2.size ≤ 200)) (fun i => n - (intOf i).toNat)
  case atStart => exact ⟨0, Nat.zero_le _, by omega, rfl, Lib.hid (fun x hx => by simp at hx)⟩
  case round =>
    obtain ⟨k, hk, hk20, rfl, HI⟩ := hrel
    by_cases hlt : k < n
    · obtain ⟨x, hx⟩ : ∃ x, L[k]? = some x := ⟨_, List.getElem?_eq_getElem (by rw [HN.out]; exact hlt)⟩
      obtain ⟨b, o, rfl, c0, c1⟩ := HP.out.at hx
      have hsx := HS.out x (List.mem_of_getElem? hx)
      obtain ⟨hs1, hs2⟩ := hsx
      by_cases h20 : k = 20
      · have HZ : Hid (fewB L = false) := Lib.hid (few_long (by rw [HN.out]; omega))
        have d1 : decide ((20 : Int) ≤ (k : Int)) = true := by simp; omega
        clear hx h20
        go_wp2
        go_ret
        exact ⟨by rw [HZ.out]; rfl, rfl⟩
      · have d1 : decide ((20 : Int) ≤ (k : Int)) = false := by simp; omega
        by_cases h1 : 200 < x.1.size
        · have HZ : Hid (fewB L = false) := Lib.hid (few_not hx (Or.inl h1))
          have d2 : decide ((200 : Int) < (x.1.size : Int)) = true := by simp; omega
          clear hx
          go_wp2
          go_ret
          exact ⟨by rw [HZ.out]; rfl, rfl⟩
        · have d2 : decide ((200 : Int) < (x.1.size : Int)) = false := by simp; omega
          by_cases h2 : 200 < x.2.size
          · have HZ : Hid (fewB L = false) := Lib.hid (few_not hx (Or.inr h2))
            have d3 : decide ((200 : Int) < (x.2.size : Int)) = true := by simp; omega
            clear hx
            go_wp2
            go_ret
            exact ⟨by rw [HZ.out]; rfl, rfl⟩
          · have d3 : decide ((200 : Int) < (x.2.size : Int)) = false := by simp; omega
            have HN2 : Hid (∀ y ∈ L.take (k + 1), y.1.size ≤ 200 ∧ y.2.size ≤ 200) := Lib.hid (by
              rw [take_succ_at L k x hx]
              intro y hy
              rcases List.mem_append.1 hy with h | h
              · exact HI.out y h
              · rw [List.mem_singleton.1 h]; omega)
            clear hx
            go_wp2
            go_round
            case rel => exact ⟨k + 1, by omega, by omega, by go_num, HN2⟩
            case measure => simp [intOf]; omega
    · obtain rfl : k = n := by omega
      have HZ : Hid (fewB L = true) := Lib.hid ((fewB_iff L).2 ⟨by rw [HN.out]; exact hk20, fun x hx => HI.out x (by rw [List.take_of_length_le (by rw [HN.out]; exact Nat.le_refl _)]; exact hx)⟩)
      go_wp2
      go_ret
      exact ⟨by rw [HZ.out]; rfl, rfl⟩
end Go.Proofs.Ytfihbfkgkljjdaa

/- Rows of calls that came in; Few: by contract. No condition. -/
import Derived.Test.YtafbphgfdnmilaaL2
namespace Go.Proofs.Ytafbphgfdnmilaa
open Go.RowKit Go.Own

/-- A call. -/
structure Ac where
  kind : Int
  at_ : Int
  data : ByteArray
  ca : Int
  ck : Nat
  ct : Int
def ac (x : Ac) : Array Value := #[.int .i64 x.kind, .int .i64 x.at_, .string x.data, .int .i64 x.ca, .int .u64 (x.ck : Int), .int .i64 x.ct]
theorem ac_size (x : Ac) : (ac x).size = 6 := rfl
theorem ac_one (x : Ac) : ∀ v ∈ (ac x).toList, v.oneCell' = true := by
  intro v hv
  simp [ac] at hv
  rcases hv with rfl | rfl | rfl | rfl | rfl | rfl <;> rfl
/-- The slice v, that came in, holds these calls. -/
def Acts (w : World) (v : Value) (L : List Ac) : Prop := ∃ po cap, v = .slice po L.length cap ∧ ∀ j x, L[j]? = some x →
  x.ca ≤ 9223372036854775807 ∧ x.data.size ≤ 9223372036854775807 ∧ ∃ g o C t f, po = some ⟨g, o, none⟩ ∧ blk w g = some (.cells C t f) ∧ o + j * 6 + 6 ≤ C.size ∧ C.extract (o + j * 6) (o + j * 6 + 6) = ac x
theorem ext_get {C : Array Value} {p n i : Nat} {c : Array Value} (h : C.extract p (p + n) = c) (hi : i < n) : C[p + i]? = c[i]? := by
  rw [← h, Array.getElem?_extract]
  rcases Nat.lt_or_ge (p + i) C.size with h1 | h1
  · rw [if_pos (by omega)]
  · rw [Array.getElem?_eq_none (by omega), if_neg (by omega)]
/-- What a call's cells read as, behind new blocks. -/
structure Reads (w : World) (g p : Nat) (C : Array Value) (t : TypeId) (f : Nat × Nat) (x : Ac) : Prop where
  blk : ∀ l d, Own.blk (Wd w l d) g = some (.cells C t f)
  kind : ∀ l d, ldX Try.prog 3 none (some (.cells C t f)) g p (Wd w l d) = .ok (.int .i64 x.kind) (Wd w l d)
  at_ : ∀ l d, ldX Try.prog 3 none (some (.cells C t f)) g (p + 1) (Wd w l d) = .ok (.int .i64 x.at_) (Wd w l d)
  data : ∀ l d, ldX Try.prog 9 none (some (.cells C t f)) g (p + 2) (Wd w l d) = .ok (.string x.data) (Wd w l d)
  all : ∀ l d, ldX Try.prog 38 (some 6) (some (.cells C t f)) g p (Wd w l d) = .ok (.agg (ac x)) (Wd w l d)
theorem Reads.mk' {w : World} {g p : Nat} {C : Array Value} {t : TypeId} {f : Nat × Nat} {x : Ac} (hb : Own.blk w g = some (.cells C t f)) (hs : p + 6 ≤ C.size) (h : C.extract p (p + 6) = ac x) : Reads w g p C t f x := by
  have hbk : ∀ l d, Own.blk (Wd w l d) g = some (.cells C t f) := fun l d => blk_old _ _ _ _ hb
  exact ⟨hbk, fun l d => ldX_mix1 (isa3 _) (hbk l d) (ext_get (i := 0) h (by omega)), fun l d => ldX_mix1 (isa3 _) (hbk l d) (ext_get (i := 1) h (by omega)),
    fun l d => ldX_mix1 (isa9 _) (hbk l d) (ext_get (i := 2) h (by omega)), fun l d => by rw [ldX_mix ag38 (hbk l d) hs, h]⟩

def okA (x : Ac) : Prop := x.data.size ≤ 300
set_option maxRecDepth 100000 in
set_option maxHeartbeats 1000000 in
theorem few_yes (L : List Ac) (v : Value) (w : World) (l : List Obj) (d : Nat) (hL : Acts w v L) (hn : L.length ≤ 200) (hd : ∀ x ∈ L, okA x) :
    Calls Try.prog 8 #[v] (Wd w l d) fun e w' => e = .returned (.bool true) ∧ w' = Wd w l d := by
  obtain ⟨po, cap, rfl, hP⟩ := hL
  obtain ⟨n, hLn⟩ : ∃ n, L.length = n := ⟨_, rfl⟩
  rw [hLn] at hn ⊢
  have HP := Lib.hid hP
  have HLN := Lib.hid hLn
  have HD := Lib.hid hd
  clear hP hLn hd
  go_enter Try.func8, Try.ntmps8
  go_wp2
  go_loop [3] (fun x => ∃ k : Nat, k ≤ n ∧ x = .int .i64 k) (fun x => n - (intOf x).toNat)
  case atStart => exact ⟨0, by omega, rfl⟩
  case round =>
    obtain ⟨k, hk, rfl⟩ := hrel
    by_cases hlt : k < n
    · obtain ⟨x, hx⟩ : ∃ x, L[k]? = some x := ⟨L[k]'(by rw [HLN.out]; exact hlt), List.getElem?_eq_getElem _⟩
      obtain ⟨_, _, g, o, C, t, f, rfl, hb, hs, hE⟩ := HP.out k x hx
      have hR := Reads.mk' hb hs hE
      have r1 := hR.blk
      have r2 := hR.data
      have hx3 : (x.data.size : Int) ≤ 300 := by have := HD.out x (List.mem_of_getElem? hx); unfold okA at this; omega
      have h200 : ¬ (200 : Int) ≤ k := by omega
      clear hx hb hs hE hR
      go_wp2
      go_round
      case rel => exact ⟨k + 1, by omega, by go_num⟩
      case measure => simp [intOf]; omega
    · obtain rfl : k = n := by omega
      go_wp2
      go_ret
      exact ⟨rfl, rfl⟩
set_option maxRecDepth 100000 in
set_option maxHeartbeats 1000000 in
theorem few_no (L : List Ac) (v : Value) (w : World) (l : List Obj) (d : Nat) (hL : Acts w v L) (hno : ¬ (L.length ≤ 200 ∧ ∀ x ∈ L, okA x)) :
    Calls Try.prog 8 #[v] (Wd w l d) fun e w' => e = .returned (.bool false) ∧ w' = Wd w l d := by
  have hbad : ∃ m x, L[m]? = some x ∧ (200 ≤ m ∨ 300 < x.data.size) := by
    by_cases h : L.length ≤ 200
    · have h2 : ¬ ∀ x ∈ L, okA x := fun h2 => hno ⟨h, h2⟩
      simp only [Classical.not_forall] at h2
      obtain ⟨x, hx, hb⟩ := h2
      obtain ⟨m, hm⟩ := List.getElem?_of_mem hx
      exact ⟨m, x, hm, .inr (by unfold okA at hb; omega)⟩
    · exact ⟨200, L[200]'(by omega), List.getElem?_eq_getElem _, .inl (by omega)⟩
  obtain ⟨m, y, hy, hbad⟩ := hbad
  have hm := (List.getElem?_eq_some_iff.1 hy).1
  obtain ⟨po, cap, rfl, hP⟩ := hL
  obtain ⟨n, hLn⟩ : ∃ n, L.length = n := ⟨_, rfl⟩
  have hn63 : m < n := by omega
  rw [hLn]
  have HP := Lib.hid hP
  have HLN := Lib.hid hLn
  have HY := Lib.hid hy
  have HB := Lib.hid hbad
  clear hP hLn hno hbad hy hm
  go_enter Try.func8, Try.ntmps8
  go_wp2
  go_loop [3] (fun x => ∃ k : Nat, k ≤ m ∧ k ≤ 200 ∧ x = .int .i64 k) (fun x => m - (intOf x).toNat)
  case atStart => exact ⟨0, by omega, by omega, rfl⟩
  case round =>
    obtain ⟨k, hk, hk2, rfl⟩ := hrel
    obtain ⟨x, hx⟩ : ∃ x, L[k]? = some x := ⟨L[k]'(by rw [HLN.out]; omega), List.getElem?_eq_getElem _⟩
    obtain ⟨_, hsz, g, o, C, t, f, rfl, hb, hs, hE⟩ := HP.out k x hx
    have hR := Reads.mk' hb hs hE
    have r1 := hR.blk
    have r2 := hR.data
    have hkn : k < n := by omega
    by_cases h200 : 200 ≤ k
    · have h200' : (200 : Int) ≤ k := by omega
      clear hx hb hs hE hR h200
      go_wp2
      go_ret
      exact ⟨rfl, rfl⟩
    · have h200' : ¬ (200 : Int) ≤ k := by omega
      by_cases hx3 : 300 < x.data.size
      · have hx3' : (300 : Int) < x.data.size := by omega
        clear hx hb hs hE hR h200 hx3
        go_wp2
        go_ret
        exact ⟨rfl, rfl⟩
      · have hx3' : (x.data.size : Int) ≤ 300 := by omega
        have hkm : k < m := by
          rcases Nat.lt_or_ge k m with h | h
          · exact h
          · obtain rfl : k = m := by omega
            rw [hx] at HY
            have e := Option.some.inj HY.out
            subst e
            have := HB.out
            omega
        clear hx hb hs hE hR h200 hx3
        go_wp2
        go_round
        case rel => exact ⟨k + 1, by omega, by omega, by go_num⟩
        case measure => simp [intOf]; omega
end Go.Proofs.Ytafbphgfdnmilaa

/- Going through places: by contract. No condition. -/
import Derived.Test.YtncbgonanoihfaaC5
namespace Go.Own
theorem cm_list (l : List A) (i : Int) (r : List Int) : cm (.list l) (i :: r) = if i < 0 ∨ (l.length : Int) ≤ i then (4, .none) else cm (l.getD i.toNat .none) r := rfl
theorem cm_nil (a : A) : cm a [] = (0, a) := by cases a <;> rfl
theorem cm_other (a : A) (h : ∀ l, a ≠ .list l) (i : Int) (r : List Int) : cm a (i :: r) = (9, .none) := by
  cases a with
  | list l => exact absurd rfl (h l)
  | _ => rfl
end Go.Own
namespace Go.Proofs.Ytncbgonanoihfaa
open Go.RowKit Go.Own
/-- The slice v holds the numbers zs. -/
def Ints (w : World) (v : Value) (zs : List Int) : Prop :=
  ∃ p cap, v = .slice p zs.length cap ∧ zs.length ≤ 9223372036854775807 ∧ ∀ (j : Nat) (z : Int), zs[j]? = some z → In64 z ∧ ∃ b o, p = some ⟨b, o, none⟩ ∧ b < w.heap.size ∧ w.cell? ⟨b, o + j, none⟩ = some (.int .i64 z)
theorem Ints.below {w w' : World} {v : Value} {zs : List Int} (h : Ints w v zs) (hb : Below w.heap.size w w') : Ints w' v zs := by
  obtain ⟨p, cap, h1, h2, h3⟩ := h
  refine ⟨p, cap, h1, h2, fun j z hz => ?_⟩
  obtain ⟨h4, b, o, h5, h6, h7⟩ := h3 j z hz
  exact ⟨h4, b, o, h5, Nat.lt_of_lt_of_le h6 hb.size, by rw [hb.cell (p := ⟨b, o + j, none⟩) h6]; exact h7⟩
/-- What 'come' answers. -/
def ComeQ (q : Int × A) (w : World) (e : Ending) (w' : World) : Prop := ∃ v', e = .returned (.tuple #[v', .int .i64 q.1]) ∧ Has w v' q.2 ∧ w = w'
theorem no_list {w : World} {v : Value} {a : A} (h : Has w v a) (hn : ∀ l, a ≠ .list l) : (∃ t u, v = .iface t u ∧ (t = 3 ∨ t = 9 ∨ t = 4 ∨ t = 54)) ∨ v = .nilIface := by
  cases h with
  | num n _ => exact Or.inl ⟨_, _, rfl, by simp⟩
  | str s _ => exact Or.inl ⟨_, _, rfl, by simp⟩
  | bool b => exact Or.inl ⟨_, _, rfl, by simp⟩
  | none => exact Or.inr rfl
  | odd u => exact Or.inl ⟨_, _, rfl, by simp⟩
  | nil => exact absurd rfl (hn _)
  | list => exact absurd rfl (hn _)
def ComeRel (w : World) (a : A) (zs : List Int) (n : Nat) (x i : Value) : Prop := ∃ (j : Nat) (b : A), j ≤ n ∧ i = .int .i64 (j : Int) ∧ Hid (Has w x b) ∧ Hid (cm a zs = cm b (zs.drop j))
set_option maxRecDepth 100000 in
set_option maxHeartbeats 1000000 in
theorem come_any (a : A) (zs : List Int) (v vz : Value) (w : World) (hv : Has w v a) (hz : Ints w vz zs) : Calls Try.prog 44 #[v, vz] w (ComeQ (cm a zs) w) := by
  obtain ⟨p, cap, rfl, hle, hcz⟩ := hz
  obtain ⟨n, hn⟩ : ∃ n, zs.length = n := ⟨_, rfl⟩
  rw [hn] at hle ⊢
  have HN := Lib.hid hn
  have HV := Lib.hid hv
  have HCZ := Lib.hid hcz
  clear hn hv hcz
  go_enter Try.func44, Try.ntmps44
  go_wp2
  go_loop [0, 12] (fun x i => ComeRel w a zs n x i) (fun _ i => n - (intOf i).toNat)
  case atStart => exact ⟨0, a, Nat.zero_le _, rfl, HV, Lib.hid (by simp)⟩
  case round =>
    obtain ⟨j, b, hj, rfl, HB, HE⟩ := hrel
    by_cases hlt : j < n
    · have hjz : j < zs.length := by rw [HN.out]; exact hlt
      obtain ⟨z, hz⟩ : ∃ z, zs[j]? = some z := ⟨_, List.getElem?_eq_getElem hjz⟩
      obtain ⟨hin, g, o, rfl, hg, c0⟩ := HCZ.out j z hz
      have hdrop : zs.drop j = z :: zs.drop (j + 1) := by
        rw [List.drop_eq_getElem_cons hjz]
        congr 1
        rw [List.getElem?_eq_getElem hjz] at hz
        exact Option.some.inj hz
      have HE1 : Hid (cm a zs = cm b (z :: zs.drop (j + 1))) := Lib.hid (by rw [HE.out, hdrop])
      unfold In64 two63 at hin
      obtain ⟨hz1, hz2⟩ := hin
      clear hz hdrop hjz
      by_cases hb : ∀ l, b ≠ .list l
      · have HE2 : Hid (cm a zs = (9, .none)) := Lib.hid (by rw [HE1.out, cm_other b hb])
        have hsh := no_list HB.out hb
        clear hb
        rcases hsh with ⟨ty, u, rfl, rfl | rfl | rfl | rfl⟩ | rfl
        all_goals
          go_wp2
          go_ret2
          rw [HE2.out]
          exact ⟨_, rfl, .none, rfl⟩
      · obtain ⟨l, rfl⟩ : ∃ l, b = .list l := by
          cases b with
          | list l => exact ⟨l, rfl⟩
          | _ => exact absurd (fun l h => by cases h) hb
        clear hb
        obtain ⟨p2, cap2, hp⟩ := AAt.parts HB.out
        obtain ⟨rfl, hl63, hsub⟩ := hp
        obtain ⟨m, hm⟩ : ∃ m, l.length = m := ⟨_, rfl⟩
        have HM := Lib.hid hm
        rw [hm] at hl63 HB ⊢
        rw [cm_list, hm] at HE1
        have HSUB := Lib.hid hsub
        clear hm hsub
        have hcs : z < 0 ∨ (0 ≤ z ∧ (m : Int) ≤ z) ∨ (0 ≤ z ∧ z < (m : Int)) := by omega
        rcases hcs with h | ⟨h, h'⟩ | ⟨h, h'⟩
        · have HE2 : Hid (cm a zs = (4, .none)) := Lib.hid (by rw [HE1.out, if_pos (by omega)])
          have d1 : decide (z < 0) = true := by simp [h]
          go_wp2
          go_ret2
          rw [HE2.out]
          exact ⟨_, rfl, .none, rfl⟩
        · have HE2 : Hid (cm a zs = (4, .none)) := Lib.hid (by rw [HE1.out, if_pos (by omega)])
          have d1 : decide (z < 0) = false := by simp [h]
          have d2 : decide ((m : Int) ≤ z) = true := by simp [h']
          go_wp2
          go_ret2
          rw [HE2.out]
          exact ⟨_, rfl, .none, rfl⟩
        · obtain ⟨k, rfl⟩ : ∃ k : Nat, z = (k : Int) := ⟨z.toNat, by omega⟩
          have hk : k < m := by omega
          obtain ⟨x, hx⟩ : ∃ x, l[k]? = some x := ⟨_, List.getElem?_eq_getElem (by rw [HM.out]; exact hk)⟩
          obtain ⟨b2, o2, u, rfl, _, _, c2, hxa⟩ := HSUB.out k x hx
          have HE2 : Hid (cm a zs = cm x (zs.drop (j + 1))) := Lib.hid (by rw [HE1.out, if_neg (by omega)]; simp [hx])
          have HX := Lib.hid hxa.has
          have d2 : decide (m ≤ k) = false := by simp; omega
          clear hx hxa h h' hz1 hz2
          go_wp2
          go_round
          case rel => exact ⟨j + 1, x, by omega, by go_num, HX, HE2⟩
          case measure => simp [intOf]; omega
    · obtain rfl : j = n := by omega
      have HE2 : Hid (cm a zs = (0, b)) := Lib.hid (by rw [HE.out, List.drop_of_length_le (by rw [HN.out]; exact Nat.le_refl _), cm_nil])
      go_wp2
      go_ret2
      rw [HE2.out]
      exact ⟨_, rfl, HB.out, rfl⟩
end Go.Proofs.Ytncbgonanoihfaa

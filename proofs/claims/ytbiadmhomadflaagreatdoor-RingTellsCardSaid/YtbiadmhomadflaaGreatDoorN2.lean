/- The document's derived bytes: by contract. -/
import Derived.Test.YtbiadmhomadflaaGreatDoorN1
import Derived.Test.YtbiadmhomadflaaGreatDoorH3
namespace Go.Proofs.YtbiadmhomadflaaGreatDoor.Sm
open Go.RowKit Go.Own
attribute [local go_sem] bs1 ag5 cs5 sz5 isa5
attribute [-go_sem] run_string_add_if
set_option maxRecDepth 100000 in
set_option maxHeartbeats 1000000 in
theorem refDerive_bad (salt secret info : ByteArray) (n : Int) (h : n < 0 ∨ 8160 < n) (w : World) :
    Calls Tryz.prog 33 #[.string salt, .string secret, .string info, .int .i64 n] w fun e w' => e = .returned (.tuple #[.string (mkS []), .int .i64 1]) ∧ Grows w w' := by
  have h' : n < 0 ∨ (¬ n < 0 ∧ 8160 < n) := by omega
  clear h
  refine calls_wd ?_
  rcases h' with z | ⟨z1, z2⟩
  all_goals
    go_enter Tryz.func33, Tryz.ntmps33
    go_wp2
    go_ret2
    exact ⟨rfl, Grows.of _ _ _⟩
set_option maxRecDepth 100000 in
set_option maxHeartbeats 2000000 in
theorem refDerive_any (salt secret info : ByteArray) (n : Nat) (h : n ≤ 8160) (h1 : salt.size ≤ 1099511600000) (h2 : secret.size ≤ 1099511500000) (h3 : info.size ≤ 1099511400000) (w : World) :
    Calls Tryz.prog 33 #[.string salt, .string secret, .string info, .int .i64 (n : Int)] w fun e w' => e = .returned (.tuple #[.string (mkS (derL (tagL (bys salt) (bys secret)) (bys info) n)), .int .i64 0]) ∧ Grows w w' := by
  have hn0 : (n : Int) ≤ 8160 := by omega
  refine calls_wd ?_
  go_enter Tryz.func33, Tryz.ntmps33
  go_wp2_with fail
  refine (refTag_any salt secret h1 h2 _).mono ?_
  rintro e w' ⟨rfl, g, d, rfl⟩
  rw [Wd_wd]
  obtain ⟨u, hu⟩ : ∃ u, tagL (bys salt) (bys secret) = u := ⟨_, rfl⟩
  have hul : Hid (u.length = 32) := Lib.hid (by rw [← hu]; exact tagL_length _ _)
  have hu8 : Hid (B8 u) := Lib.hid (by rw [← hu]; exact tagL_B8 _ _)
  have HU := Lib.hid hu
  rw [hu]
  clear hu
  obtain ⟨x, hx⟩ : ∃ x, bys info = x := ⟨_, rfl⟩
  have HX := Lib.hid hx
  have hxl : Hid (x.length ≤ 1099511400000) := Lib.hid (by rw [← hx, bys_length]; exact h3)
  clear hx
  go_wp2
  go_loopw [11, 12, 13] (fun o t i wr => ∃ (q m d a : Nat) (T O : List Nat) (g : List Obj), 32 * q = m ∧ q + 1 = a ∧ m < n + 32 ∧ o = .string (mkS O) ∧ Hid (outD u x q = O) ∧ (mkS O).size = m ∧ t = .string (mkS T) ∧ Hid (dT u x q = T) ∧ i = .int .i64 a ∧ wr = Wd w g d) (fun o _ _ _ => match o with | .string s => n + 32 - s.size | _ => 0)
  case atStart => exact ⟨0, 0, d, 1, [], [], g, rfl, rfl, by omega, rfl, Lib.hid rfl, rfl, rfl, Lib.hid rfl, rfl, rfl⟩
  case round =>
    obtain ⟨q, m, d, a, T, O, g, hm, ha, hmn, rfl, hO, hOs, rfl, hT, rfl, rfl⟩ := hrel
    have HM := Lib.hid hm
    have HA := Lib.hid ha
    have HOS := Lib.hid hOs
    clear hm ha
    by_cases hlt : m < n
    · have hlti : (m : Int) < n := by omega
      have hTl : Hid (T.length ≤ 32) := Lib.hid (by rw [← hT.out]; cases q with | zero => exact Nat.zero_le _ | succ q => rw [dT, tagL_length]; exact Nat.le_refl _)
      have hT8 : Hid (B8 T) := Lib.hid (by rw [← hT.out]; cases q with | zero => exact (fun n hn => by simp [dT] at hn) | succ q => exact tagL_B8 _ _)
      obtain ⟨y, hy⟩ : ∃ y, a % 256 = y := ⟨_, rfl⟩
      have hwb := wrap8 a
      rw [hy] at hwb
      obtain ⟨T', hT'⟩ : ∃ T', dT u x (q + 1) = T' := ⟨_, rfl⟩
      have HT' := Lib.hid hT'
      have hTE : Hid (tagL u (T ++ (x ++ [y])) = T') := Lib.hid (by rw [← hT', dT, hT.out, HA.out, hy])
      have hTl' : Hid (T'.length = 32) := Lib.hid (by rw [← hTE.out]; exact tagL_length _ _)
      have hyb : Hid (y < 256) := Lib.hid (by rw [← hy]; exact Nat.mod_lt _ (by decide))
      clear hT' hy
      have hinfo : Hid (info.size ≤ 1099511400000) := Lib.hid h3
      obtain ⟨p1, hp1⟩ : ∃ p, mkS T ++ info = p := ⟨_, rfl⟩
      have hp1b : Hid (p1 = mkS (T ++ x)) := Lib.hid (by rw [← hp1, bys_cat, HX.out])
      have hadd1 : ∀ W, (Op.stringOp .add (mkS T) info).run Tryz.prog W = .ok (.string p1) W := fun W => by
        rw [run_string_add_sum W _ _ (by rw [mkS_size]; have := hTl.out; have := hinfo.out; omega), hp1]
      obtain ⟨p2, hp2⟩ : ∃ p, p1 ++ mkS [y] = p := ⟨_, rfl⟩
      have hy8 : Hid (B8 [y]) := Lib.hid (fun n hn => by rw [List.mem_singleton] at hn; rw [hn]; exact hyb.out)
      have hx8 : Hid (B8 x) := Lib.hid (by rw [← HX.out]; exact B8.bys info)
      have hp2b : Hid (p2 = mkS (T ++ (x ++ [y]))) := Lib.hid (by rw [← hp2, hp1b.out, mkS_append, List.append_assoc])
      have hp1s : Hid (p1.size ≤ 1099511400032) := Lib.hid (by rw [hp1b.out, mkS_size, List.length_append]; have := hTl.out; have := hxl.out; omega)
      have hp2s : Hid (p2.size ≤ 1099511400033) := Lib.hid (by rw [hp2b.out, mkS_size]; simp only [List.length_append, List.length_cons, List.length_nil]; have := hTl.out; have := hxl.out; omega)
      have hadd2 : ∀ W, (Op.stringOp .add p1 (mkS [y])).run Tryz.prog W = .ok (.string p2) W := fun W => by
        rw [run_string_add_sum W _ _ (by rw [mkS_size]; have := hp1s.out; simp; omega), hp2]
      clear hp1 hp2
      go_wp2_with fail
      have hE : tagL (bys (mkS u)) (bys p2) = T' := by
        rw [bys_mkS u hu8.out, hp2b.out, bys_mkS _ (hT8.out.append (hx8.out.append hy8.out)), hTE.out]
      refine (refTag_any (mkS u) p2 (by rw [mkS_size, hul.out]; decide) (by have := hp2s.out; omega) _).mono ?_
      rintro e w' ⟨rfl, g2, d2, rfl⟩
      rw [Wd_wd, hE]
      clear hE
      obtain ⟨O2, hO2⟩ : ∃ O2, O ++ T' = O2 := ⟨_, rfl⟩
      have HO2 : Hid (outD u x (q + 1) = O2) := Lib.hid (by rw [outD_succ, hO.out, HT'.out, hO2])
      have hadd3 : ∀ W, (Op.stringOp .add (mkS O) (mkS T')).run Tryz.prog W = .ok (.string (mkS O2)) W := fun W => by
        rw [run_string_add_sum W _ _ (by rw [HOS.out, mkS_size, hTl'.out]; omega), mkS_append, hO2]
      obtain ⟨m2, hm2⟩ : ∃ m2, m + 32 = m2 := ⟨_, rfl⟩
      have hO2s : (mkS O2).size = m2 := by rw [mkS_size, ← hO2, List.length_append, hTl'.out, ← mkS_size, HOS.out, hm2]
      obtain ⟨a2, ha2⟩ : ∃ a2, a + 1 = a2 := ⟨_, rfl⟩
      have ha2i : (a : Int) + 1 = a2 := by omega
      have HA2 := Lib.hid ha2
      have HM2 := Lib.hid hm2
      have ha9 : a ≤ 300 := by have := HM.out; have := HA.out; omega
      have ha29 : a2 ≤ 301 := by omega
      clear ha2 hO2
      go_wp2
      go_roundw
      case rel =>
        refine ⟨q + 1, m2, _, a2, T', O2, _, ?_, ?_, ?_, rfl, HO2, hO2s, rfl, HT', rfl, rfl⟩
        · have := HM.out; have := HM2.out; omega
        · have := HA.out; have := HA2.out; omega
        · have := HM2.out; omega
      case measure => have := HM2.out; simp; omega
    · have hlti : ¬ (m : Int) < n := by omega
      have hnm : n ≤ m := by omega
      have hnmi : (n : Int) ≤ (m : Int) := by omega
      have hD : Hid ((mkS O).extract 0 n = mkS (derL u x n)) := Lib.hid (by
        have hO8 : B8 O := by
          rw [← hO.out]
          intro b hb
          obtain ⟨i, _, hi⟩ := List.mem_flatMap.1 hb
          exact tagL_B8 _ _ b hi
        apply bys_inj
        rw [bys_extract, List.drop_zero, Nat.sub_zero, bys_mkS O hO8, ← derL_eq u x n q (by have := HM.out; omega) (by have := HM.out; omega), hO.out, bys_mkS _ (hO8.take n)])
      go_wp2
      go_ret2
      exact ⟨by rw [HU.out, HX.out, hD.out]; rfl, Grows.of _ _ _⟩
end Go.Proofs.YtbiadmhomadflaaGreatDoor.Sm

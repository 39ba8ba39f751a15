/- The laws' own calls of layer 8: by contract. No condition. -/
import Derived.Test.YtafbphgfdnmilaaC8
import Derived.LaidEqlPtr
namespace Go.Proofs.Ytafbphgfdnmilaa
open Go.RowKit Go.Own

def none0 : Nat → Prop := fun _ => False
def sAB : ByteArray := { data := #[97, 98] }
def sCD : ByteArray := { data := #[99, 100] }
def sX : ByteArray := { data := #[120] }
def sY : ByteArray := { data := #[121] }
/-- The disks of 'awake', one behind the other. -/
def aw1 : Dk × Nat := (newK 2).write 0 (bys sAB)
def aw2 : Dk × Nat := aw1.1.write 1 (bys sCD)
def aw3 : Dk := aw2.1.crash 3 1
def aw4 : Dk × Nat := aw3.write 0 (bys sX)
def aw5 : Dk := aw4.1.start
def aw6 : Dk × Nat := aw5.flush
def aw7 : Dk × Nat := aw6.1.write 2 (bys ByteArray.empty)
theorem aw1_c : aw1.2 = 0 ∧ aw1.1.count = 1 := by decide +kernel
theorem aw2_c : aw2.2 = 0 ∧ aw2.1.count = 2 := by decide +kernel
theorem aw3_c : aw3.count = 0 ∧ aw3.off = true := by decide +kernel
theorem aw4_c : aw4.2 = 7 ∧ aw4.1.count = 0 := by decide +kernel
theorem aw5_c : aw5.count = 0 ∧ aw5.off = false ∧ (aw5.read 0).2 = 0 ∧ (aw5.read 1).2 = 0 := by decide +kernel
theorem aw5_s : (mkS (aw5.read 0).1).size = 64 ∧ (mkS (aw5.read 0).1).extract 0 3 = { data := #[97, 98, 0] } ∧ (mkS (aw5.read 1).1).size = 64 ∧ (mkS (aw5.read 1).1).extract 0 2 = { data := #[99, 0] } := by decide +kernel
theorem aw6_c : aw6.2 = 0 ∧ aw6.1.off = false ∧ aw6.1.n = 2 ∧ (mkS aw6.1.last).size = 128 ∧ aw6.1.count = 0 := by decide +kernel
theorem aw7_c : aw7.2 = 1 := by decide +kernel
theorem no0 (l : List Obj) : ∀ p, none0 p → p < l.length := fun _ h => h.elim
set_option maxRecDepth 100000 in
set_option maxHeartbeats 2000000 in
theorem awake_any (w : World) : Calls Try.prog 7 #[] w fun e w' => e = .returned (.bool true) ∧ Grows w w' := by
  refine calls_wd ?_
  go_enter Try.func7, Try.ntmps7
  go_wp2_with fail
  refine (new_any w [] 0 2 (by decide) (by decide) none0 (no0 _)).mono ?_
  rintro e w' ⟨i, s, q, l0, d0, v0, rfl, rfl, hA, -⟩
  have HA := Lib.hid hA
  clear hA
  go_wp2_with fail
  refine (new_bad _ 0 (by decide)).mono ?_
  rintro e w' ⟨rfl, rfl⟩
  go_wp2_with fail
  refine (write_any w l0 d0 i s q v0 none0 _ 0 sAB HA.out (by decide) (no0 _)).mono ?_
  rintro e w' ⟨rfl, l1, d1, v1, rfl, hA, -⟩
  rw [show ((newK 2).write 0 (bys sAB)).2 = 0 from aw1_c.1]
  have HA1 := Lib.hid (show DAt w l1 i s q v1 none0 aw1.1 from hA)
  clear hA HA
  go_wp2_with fail
  refine (write_any w l1 d1 i s q v1 none0 _ 1 sCD HA1.out (by rw [aw1_c.2]; decide) (no0 _)).mono ?_
  rintro e w' ⟨rfl, l2, d2, v2, rfl, hA, -⟩
  rw [show (aw1.1.write 1 (bys sCD)).2 = 0 from aw2_c.1]
  have HA2 := Lib.hid (show DAt w l2 i s q v2 none0 aw2.1 from hA)
  clear hA HA1
  go_wp2_with fail
  refine (crash_any w l2 d2 i s q v2 none0 _ 3 1 HA2.out (by rw [aw2_c.2]; decide) (no0 _)).mono ?_
  rintro e w' ⟨rfl, l3, d3, v3, rfl, hA, -⟩
  have HA3 := Lib.hid (show DAt w l3 i s q v3 none0 aw3 from hA)
  clear hA HA2
  go_wp2_with fail
  refine (write_any w l3 d3 i s q v3 none0 _ 0 sX HA3.out (by rw [aw3_c.1]; decide) (no0 _)).mono ?_
  rintro e w' ⟨rfl, l4, d4, v4, rfl, hA, -⟩
  rw [show (aw3.write 0 (bys sX)).2 = 7 from aw4_c.1]
  have HA4 := Lib.hid (show DAt w l4 i s q v4 none0 aw4.1 from hA)
  clear hA HA3
  go_wp2_with fail
  refine (startS_any w l4 d4 i s q v4 none0 _ HA4.out).mono ?_
  rintro e w' ⟨rfl, l5, d5, v5, rfl, hA, -⟩
  have HA5 := Lib.hid (show DAt w l5 i s q v5 none0 aw5 from hA)
  clear hA HA4
  go_wp2_with fail
  refine (read_any w l5 d5 i s q v5 none0 _ 0 HA5.out).mono ?_
  rintro e w' ⟨rfl, rfl⟩
  rw [show (aw5.read 0).2 = 0 from aw5_c.2.2.1]
  go_wp2_with fail
  refine (read_any w l5 d5 i s q v5 none0 _ 1 HA5.out).mono ?_
  rintro e w' ⟨rfl, rfl⟩
  rw [show (aw5.read 1).2 = 0 from aw5_c.2.2.2]
  have hs1 := aw5_s.1
  have hs2 := aw5_s.2.1
  have hs3 := aw5_s.2.2.1
  have hs4 := aw5_s.2.2.2
  generalize mkS (aw5.read 0).1 = S at *
  generalize mkS (aw5.read 1).1 = T at *
  go_wp2_with fail
  refine (flush_any w l5 d5 i s q v5 none0 _ HA5.out (by rw [aw5_c.1]; decide) (no0 _)).mono ?_
  rintro e w' ⟨rfl, l6, d6, v6, rfl, hA, -⟩
  rw [show (aw5.flush).2 = 0 from aw6_c.1]
  have HA6 := Lib.hid (show DAt w l6 i s q v6 none0 aw6.1 from hA)
  clear hA HA5
  go_wp2_with fail
  refine (size2_any w l6 d6 i s q v6 none0 _ HA6.out).mono ?_
  rintro e w' ⟨rfl, rfl⟩
  rw [aw6_c.2.2.1]
  go_wp2_with fail
  refine (down2_any w l6 d6 i s q v6 none0 _ HA6.out).mono ?_
  rintro e w' ⟨rfl, rfl⟩
  rw [aw6_c.2.1]
  go_wp2_with fail
  refine (image_any w l6 d6 i s q v6 none0 _ HA6.out).mono ?_
  rintro e w' ⟨rfl, g7, d7, rfl⟩
  have hs5 := aw6_c.2.2.2.1
  generalize mkS aw6.1.last = U at *
  go_wp2_with fail
  refine (write_any w _ d7 i s q v6 none0 _ 2 ByteArray.empty (HA6.out.app g7) (by rw [aw6_c.2.2.2.2]; decide) (no0 _)).mono ?_
  rintro e w' ⟨rfl, l7, d8, v7, rfl, -, -⟩
  rw [show (aw6.1.write 2 (bys ByteArray.empty)).2 = 1 from aw7_c]
  go_wp2
  go_ret
  exact ⟨rfl, Grows.of _ _ _⟩
end Go.Proofs.Ytafbphgfdnmilaa

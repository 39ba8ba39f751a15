/- Open of blob, given what Open of the layer below answers: by contract. No condition but the sizes. -/
import Derived.Test.YtfamoakicgmfgaaZ5
namespace Go.Proofs.Ytfamoakicgmfgaa.Lb
open Go.RowKit Go.Own.Lb
variable {sA : ByteArray → ByteArray → ByteArray → ByteArray → ByteArray} {oA : ByteArray → ByteArray → ByteArray → ByteArray → ByteArray × Int}
theorem parts_ok {b : ByteArray} {h : Hd} {r : ByteArray} (hp : partS b = some (h, r)) : rightH h = true ∧ 16 ≤ r.size ∧ r.size ≤ 1040 := by
  unfold partS at hp
  split at hp
  · rename_i hz
    obtain ⟨rfl, rfl⟩ := Prod.mk.inj (Option.some.inj hp)
    exact hz.2
  · cases hp
set_option maxRecDepth 100000 in
set_option maxHeartbeats 2000000 in
theorem open_any (H : Under sA oA) (k b : ByteArray) (L : List P2) (p : Option Addr) (cap : Nat) (hb : b.size ≤ 1099511627776) (hL : L.length ≤ 1000000) (hs : ∀ x ∈ L, x.1.size ≤ 1000000 ∧ x.2.size ≤ 1000000) (w : World) (hP : PsC w (.slice p L.length cap) L) :
    Calls Try.prog 9 #[.string k, .string b, .slice p L.length cap] w fun e w' => e = .returned (.tuple #[.string (openA oA k b L).1, .int .i64 (openA oA k b L).2]) ∧ Below w.heap.size w w' := by
  have HPT := Lib.hid (parted_any b hb w)
  have HT := Lib.hid fun W h => text_any L p cap hL hs W h
  have HP := Lib.hid hP
  obtain ⟨ANS, hANS⟩ : ∃ A, openA oA k b L = A := ⟨_, rfl⟩
  rw [hANS]
  have HANS := Lib.hid hANS
  obtain ⟨n, hn⟩ : ∃ n, L.length = n := ⟨_, rfl⟩
  rw [hn] at HT HP ⊢
  clear hL hs hP hANS hb hn
  cases ho : partS b with
  | none =>
    have hA : Hid (ANS = ({ data := #[] }, 2)) := Lib.hid (HANS.out.symm.trans (by unfold openA; rw [ho]))
    rw [ho] at HPT
    obtain ⟨x, hx⟩ : ∃ x, textR L = x := ⟨_, rfl⟩
    obtain ⟨x1, x2, hx2⟩ : ∃ s z, textR L = .tuple #[.string s, .int .i64 z] := by
      unfold textR; split
      · exact ⟨_, _, rfl⟩
      · exact ⟨_, _, rfl⟩
    rw [hx2] at HT
    clear ho H hx hx2
    unfold partV hdV noHd at HPT
    simp only at HPT
    go_enter Try.func9, Try.ntmps9
    go_wp2_with fail
    refine HPT.out.mono ?_
    rintro e w1 ⟨rfl, hb1⟩
    have HP1 := Lib.hid (HP.out.below hb1)
    have HB1 := Lib.hid hb1
    clear hb1
    go_wp2_with fail
    refine (HT.out _ (HP1.out.below ((Below.refl _ w1).alloc (Nat.le_refl _) _))).mono ?_
    rintro e w2 ⟨rfl, hb2⟩
    have HB2 := Lib.hid ((HB1.out.trans ((Below.refl _ w1).alloc HB1.out.size _)).trans (hb2.mono (by have := HB1.out.size; simp; omega)))
    clear hb2
    go_wp2
    go_ret2
    exact ⟨by rw [hA.out]; rfl, HB2.out⟩
  | some q =>
  obtain ⟨h, r⟩ := q
  obtain ⟨hrh, hr16, hr1040⟩ := parts_ok ho
  obtain ⟨z1, z2, z3, z4⟩ := right_parts hrh
  rw [ho] at HPT
  have hO : ANS = if rightP L = true ∧ k.size = 32 then oA k h.nonce (laidH h ++ mkS (textP L)) r else ({ data := #[] }, 2) := HANS.out.symm.trans (by unfold openA; rw [ho])
  clear ho
  unfold partV hdV at HPT
  simp only at HPT
  cases hr : rightP L with
  | false =>
    have hA : Hid (ANS = ({ data := #[] }, 2)) := Lib.hid (hO.trans (if_neg fun h => by rw [hr] at h; cases h.1))
    have hE : textR L = .tuple #[.string { data := #[] }, .int .i64 2] := by unfold textR; rw [if_neg (by rw [hr]; decide)]
    rw [hE] at HT
    clear hE hr H hO hrh hr16 hr1040 z1 z2 z3 z4
    go_enter Try.func9, Try.ntmps9
    go_wp2_with fail
    refine HPT.out.mono ?_
    rintro e w1 ⟨rfl, hb1⟩
    have HP1 := Lib.hid (HP.out.below hb1)
    have HB1 := Lib.hid hb1
    clear hb1
    go_wp2_with fail
    refine (HT.out _ (HP1.out.below ((Below.refl _ w1).alloc (Nat.le_refl _) _))).mono ?_
    rintro e w2 ⟨rfl, hb2⟩
    have HB2 := Lib.hid ((HB1.out.trans ((Below.refl _ w1).alloc HB1.out.size _)).trans (hb2.mono (by have := HB1.out.size; simp; omega)))
    clear hb2
    go_wp2
    go_ret2
    exact ⟨by rw [hA.out]; rfl, HB2.out⟩
  | true =>
  have hE : textR L = .tuple #[.string (mkS (textP L)), .int .i64 0] := by unfold textR; rw [if_pos hr]
  have hlen := text_len hr
  rw [hE] at HT
  clear hE
  obtain ⟨x, hx⟩ : ∃ x, mkS (textP L) = x := ⟨_, rfl⟩
  rw [hx] at HT hlen hO
  by_cases hk : k.size = 32
  case neg =>
    have hA : Hid (ANS = ({ data := #[] }, 2)) := Lib.hid (hO.trans (if_neg fun h => hk h.2))
    have hki : ((k.size : Int) != 32) = true := by simp; omega
    clear hr H hO hrh hr16 hr1040 z1 z2 z3 z4 hk hlen hx
    go_enter Try.func9, Try.ntmps9
    go_wp2_with fail
    refine HPT.out.mono ?_
    rintro e w1 ⟨rfl, hb1⟩
    have HP1 := Lib.hid (HP.out.below hb1)
    have HB1 := Lib.hid hb1
    clear hb1
    go_wp2_with fail
    refine (HT.out _ (HP1.out.below ((Below.refl _ w1).alloc (Nat.le_refl _) _))).mono ?_
    rintro e w2 ⟨rfl, hb2⟩
    have HB2 := Lib.hid ((HB1.out.trans ((Below.refl _ w1).alloc HB1.out.size _)).trans (hb2.mono (by have := HB1.out.size; simp; omega)))
    clear hb2
    go_wp2
    go_ret2
    exact ⟨by rw [hA.out]; rfl, HB2.out⟩
  have hki : ((k.size : Int) != 32) = false := by simp; omega
  have hA : Hid (ANS = oA k h.nonce (laidH h ++ x) r) := Lib.hid (hO.trans (if_pos ⟨hr, hk⟩))
  have hls := laidH_size h
  have hL := fun W => laid_h h (by omega) (by omega) (by omega) W
  have hS := fun W => H.opn k h.nonce (laidH h ++ x) r W hk z4 (by rw [ByteArray.size_append]; omega) hr16 hr1040
  have a1 : ∀ W, (Op.stringOp .add (laidH h) x).run Try.prog W = .ok (.string (laidH h ++ x)) W := fun W => run_string_add_sum W _ _ (by omega)
  generalize oA k h.nonce (laidH h ++ x) r = y1 at *
  obtain ⟨y1a, y1b⟩ := y1
  simp only at hS hA
  generalize laidH h ++ x = y0 at *
  generalize laidH h = ll at *
  unfold hdV at hL
  clear hr H hO hrh hr16 hr1040 z1 z2 z3 z4 hk hlen hx hls
  go_enter Try.func9, Try.ntmps9
  go_wp2_with fail
  refine HPT.out.mono ?_
  rintro e w1 ⟨rfl, hb1⟩
  have HP1 := Lib.hid (HP.out.below hb1)
  have HB1 := Lib.hid hb1
  clear hb1
  have HL := Lib.hid hL
  have HS := Lib.hid hS
  clear hL hS
  go_wp2_with fail
  refine (HT.out _ (HP1.out.below ((Below.refl _ w1).alloc (Nat.le_refl _) _))).mono ?_
  rintro e w2 ⟨rfl, hb2⟩
  have HR2 := Lib.hid (keep_b hb2 (heap_alloc_new w1 (.cells #[.string h.id, .int .i64 h.ver, .string h.nonce] 23)))
  have HB2 := Lib.hid ((HB1.out.trans ((Below.refl _ w1).alloc HB1.out.size _)).trans (hb2.mono (by have := HB1.out.size; simp; omega)))
  have HL2 : Hid (∀ g : Gw w2, Calls Try.prog 12 #[.agg #[.string h.id, .int .i64 h.ver, .string h.nonce]] g.1 fun x w' => x = .returned (.string ll) ∧ Grew w2 w') := Lib.hid fun g => grew_call (HL.out _)
  have HS2 : Hid (∀ g : Gw w2, Calls Try.prog 15 #[.string k, .string h.nonce, .string y0, .string r] g.1 fun x w' => x = .returned (.tuple #[.string y1a, .int .i64 y1b]) ∧ Grew w2 w') := Lib.hid fun g => grew_call (HS.out _)
  have c0 : ∀ g : Gw w2, g.1.cell? ⟨w1.heap.size, 0, none⟩ = some (.string h.id) := fun g => cell_of (keep_b g.2 HR2.out) 0
  have c1 : ∀ g : Gw w2, g.1.cell? ⟨w1.heap.size, 1, none⟩ = some (.int .i64 h.ver) := fun g => cell_of (keep_b g.2 HR2.out) 1
  have c2 : ∀ g : Gw w2, g.1.cell? ⟨w1.heap.size, 2, none⟩ = some (.string h.nonce) := fun g => cell_of (keep_b g.2 HR2.out) 2
  clear hb2
  go_wp2_with fail
  refine wp_region_grew (by kernel_rfl) (by kernel_rfl) ?_
  repeat (go_big_quiet_step ((first | (with_reducible exact HL2.out _) | (with_reducible exact HS2.out _))))
  refine wpQuiet_nil ?_
  intro g
  have HB := Lib.hid (HB2.out.trans (g.2.mono HB2.out.size))
  go_wp2
  go_ret2
  exact ⟨by rw [hA.out]; rfl, HB.out⟩
end Go.Proofs.Ytfamoakicgmfgaa.Lb

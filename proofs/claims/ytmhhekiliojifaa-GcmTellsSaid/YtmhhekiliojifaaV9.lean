/- The tag of a body: by contract. No condition but sizes. -/
import Derived.Test.YtmhhekiliojifaaV8
namespace Go.Own
open Go.RowKit
def bsM (T : TypeId) (n : Nat) (parts : Array (Nat × Value)) : Sem Value := Instr.buildSlice T n parts
theorem execOp_bsM (ρ : Operand → Value) (dst : Option Tmp) (T : TypeId) (n : Nat) (parts : Array (Nat × Operand)) (ty : TypeId) (pos : String) (after : Array Edge) (guard : Option (Nat × Bool)) :
    execOp ρ { dst, op := .buildSlice T n parts, type := ty, pos, after, guard } = (bsM T n (parts.map fun (i, x) => (i, ρ x)) >>= fun v => pure (.value v)) := rfl
end Go.Own
namespace Go.Proofs.Ytmhhekiliojifaa
open Go.RowKit Go.Own
attribute [local go_sem] z5 ag5 cs5 sz5 isa5 ag40 cs40 sz40 z40 isa9 ag9 ag56 cs56 sz56 isa56 set_same List.getElem?_set_ne
attribute [-go_sem] run_string_add_if
/-- The lengths of two texts, in bits, as a block. -/
def lensL (a b : Nat) : List Nat := hfL (8 * a) 8 ++ hfL (8 * b) 8
/-- The tag. -/
def tagP (cs mask : List Nat) (bes body : ByteArray) : List Nat :=
  (List.range 16).map (xorF (htext (pressL cs (rep 16)) (htext (pressL cs (rep 16)) (htext (pressL cs (rep 16)) (rep 16) bes) body) (mkS (lensL bes.size body.size))) mask)
theorem bu40 (W : World) : (buN 40 #[]).run Try.prog W = .ok (.agg (cv .u8 (rep 16))) W := by kernel_rfl
theorem sz9 (w : World) : (sizeOf 9).run Try.prog w = .ok 1 w := by kernel_rfl
attribute [local go_sem] bu40 sz9
theorem bs3 (a b c : ByteArray) (w : World) (l : List Obj) (d : Nat) : (bsM 89 3 #[(0, .string a), (1, .string b), (2, .string c)]).run Try.prog (Wd w l d) =
    .ok (.slice (some ⟨w.heap.size + l.length, 0, none⟩) 3 3) (Wd w (l ++ [.cells #[.string a, .string b, .string c] 9 (0, 0)]) d) := by
  rw [← Wd_alloc, ← Wd_size w l d]
  generalize Wd w l d = W
  kernel_rfl
attribute [local go_sem ↓] execOp_bsM
attribute [local go_sem] bs3
/-- While a tag is made, in whatever order. -/
structure TgI (vb cb : Nat) (cs mask : List Nat) (bes body LL : ByteArray) (h HH T : List Nat) (w1 : World) (d : Nat) (b : Nat → Bool) (x17 x18 x19 x20 x21 x22 x23 x24 x25 x26 x27 x8 : Value) (i : Nat) (l : List Obj) : Prop where
  r0 : l[0]? = some (.cells (cv .u8 mask) 40 (0, 0))
  prs : b 7 = false → Prs (Wd w1 l d) vb cb cs
  h0 : b 0 = true → x17 = .func (.func 26) #[] #[.pointer (some ⟨vb, 0, none⟩)]
  h1 : b 1 = true → x18 = .agg (cv .u8 (rep 16))
  h2 : b 2 = true → x19 = .agg (cv .u8 h)
  h3 : b 3 = true → x20 = .string bes
  h4 : b 4 = true → x21 = .string body
  h5 : b 5 = true → x22 = .string LL
  h6 : b 6 = true → x23 = .slice (some ⟨w1.heap.size + i, 0, none⟩) 3 3 ∧ (b 7 = false → l[i]? = some (.cells #[.string bes, .string body, .string LL] 9 (0, 0)))
  h7 : b 7 = true → x24 = .agg (cv .u8 HH)
  h8 : b 8 = true → x25 = .agg (cv .u8 mask)
  h9 : b 9 = true → x26 = .agg (cv .u8 T)
  h10 : b 10 = true → x27 = .string (mkS T)
  h11 : b 11 = true → x8 = .string (mkS T)
  c7 : b 7 = true → b 2 = true ∧ b 6 = true
theorem TgI.app {vb cb : Nat} {cs mask : List Nat} {bes body LL : ByteArray} {h HH T : List Nat} {w1 : World} {d : Nat} {b : Nat → Bool} {x17 x18 x19 x20 x21 x22 x23 x24 x25 x26 x27 x8 : Value} {i : Nat} {l : List Obj} (hI : TgI vb cb cs mask bes body LL h HH T w1 d b x17 x18 x19 x20 x21 x22 x23 x24 x25 x26 x27 x8 i l) (g : List Obj) (e : Nat) :
    TgI vb cb cs mask bes body LL h HH T w1 e b x17 x18 x19 x20 x21 x22 x23 x24 x25 x26 x27 x8 i (l ++ g) := by
  have k : ∀ {i : Nat} {o : Obj}, l[i]? = some o → (l ++ g)[i]? = some o := fun {i o} hi => by rw [List.getElem?_append_left (List.getElem?_eq_some_iff.1 hi).1]; exact hi
  exact ⟨k hI.r0, fun q => ⟨blk_app (hI.prs q).var, blk_app (hI.prs q).cip, (hI.prs q).len⟩, hI.h0, hI.h1, hI.h2, hI.h3, hI.h4, hI.h5, fun q => ⟨(hI.h6 q).1, fun r => k ((hI.h6 q).2 r)⟩, hI.h7, hI.h8, hI.h9, hI.h10, hI.h11, hI.c7⟩
set_option maxRecDepth 100000 in
set_option maxHeartbeats 2000000 in
theorem gtag_any (vb cb : Nat) (cs mask : List Nat) (bes body : ByteArray) (hm : mask.length = 16) (hb : bes.size ≤ 65536) (hbo : body.size ≤ 65536) (w : World) (H : Prs w vb cb cs) :
    Calls Try.prog 17 #[.func (.func 26) #[] #[.pointer (some ⟨vb, 0, none⟩)], .agg (cv .u8 mask), .string bes, .string body] w fun e w' => e = .returned (.string (mkS (tagP cs mask bes body))) ∧ Below w.heap.size w w' := by
  have HB1 : Hid (∀ W, Calls Try.prog 32 #[.string bes] W fun e w' => e = .returned (.int .u64 ((8 * bes.size : Nat) : Int)) ∧ Grows W w') := Lib.hid fun W => bitsOf_any bes hb W
  have HB2 : Hid (∀ W, Calls Try.prog 32 #[.string body] W fun e w' => e = .returned (.int .u64 ((8 * body.size : Nat) : Int)) ∧ Grows W w') := Lib.hid fun W => bitsOf_any body hbo W
  obtain ⟨p, hp⟩ : ∃ p, 8 * bes.size = p := ⟨_, rfl⟩
  obtain ⟨q, hq⟩ : ∃ q, 8 * body.size = q := ⟨_, rfl⟩
  rw [hp] at HB1
  rw [hq] at HB2
  have HF1 : Hid (∀ W, Calls Try.prog 29 #[.int .u64 (p : Nat), .int .i64 8] W fun e w' => e = .returned (.string (mkS (hfL p 8))) ∧ Grows W w') := Lib.hid fun W => highFirst_any p 8 (by decide) W
  have HF2 : Hid (∀ W, Calls Try.prog 29 #[.int .u64 (q : Nat), .int .i64 8] W fun e w' => e = .returned (.string (mkS (hfL q 8))) ∧ Grows W w') := Lib.hid fun W => highFirst_any q 8 (by decide) W
  have hcat : ∀ W, (Op.stringOp .add (mkS (hfL p 8)) (mkS (hfL q 8))).run Try.prog W = .ok (.string (mkS (hfL p 8 ++ hfL q 8))) W := fun W => by
    rw [run_string_add_sum W _ _ (by rw [mkS_size, mkS_size, hfL_length, hfL_length]; decide)]
    congr 2
  obtain ⟨LL, hLL⟩ : ∃ LL, mkS (hfL p 8 ++ hfL q 8) = LL := ⟨_, rfl⟩
  obtain ⟨h, hh⟩ : ∃ h, pressL cs (rep 16) = h := ⟨_, rfl⟩
  have hhl : h.length = 16 := by rw [← hh]; unfold pressL rndLast; exact addL_length _ _ _
  have hh8 : B8 h := by rw [← hh]; unfold pressL rndLast; exact addL_B8 _ _ _
  obtain ⟨HH, hHH⟩ : ∃ HH, htext h (htext h (htext h (rep 16) bes) body) LL = HH := ⟨_, rfl⟩
  have hLLs : LL.size = 16 := by rw [← hLL, mkS_size, List.length_append, hfL_length, hfL_length]
  have hHl : HH.length = 16 := by
    rw [← hHH]
    have g1 := htext_good h (rep 16) bes (rep_length _) (B8.rep _)
    have g2 := htext_good h _ body g1.1 g1.2
    exact (htext_good h _ LL g2.1 g2.2).1
  obtain ⟨T, hT⟩ : ∃ T, (List.range 16).map (xorF HH mask) = T := ⟨_, rfl⟩
  have hTl : T.length = 16 := by rw [← hT]; simp
  have HTAG : Hid (tagP cs mask bes body = T) := Lib.hid (by unfold tagP lensL; rw [hh, hp, hq, hLL, hHH, hT])
  have HC2 : Hid (∀ W, Prs W vb cb cs → Calls Try.prog 26 #[.agg (cv .u8 (rep 16)), .pointer (some ⟨vb, 0, none⟩)] W fun e w' => e = .returned (.agg (cv .u8 h)) ∧ Grows W w') := Lib.hid fun W hW => hh ▸ pressed_any vb cb cs (rep 16) (rep_length _) (B8.rep _) W hW
  have HC7 : Hid (∀ sb W, blk W sb = some (.cells #[.string bes, .string body, .string LL] 9 (0, 0)) → Calls Try.prog 33 #[.agg (cv .u8 h), .slice (some ⟨sb, 0, none⟩) 3 3] W fun e w' => e = .returned (.agg (cv .u8 HH)) ∧ Below W.heap.size W w') := Lib.hid fun sb W hW => by
    have := hash_any h hhl hh8 bes body LL (by omega) (by omega) (by omega) sb W hW
    rwa [hHH] at this
  have HC9 : Hid (∀ W, Calls Try.prog 31 #[.agg (cv .u8 HH), .agg (cv .u8 mask)] W fun e w' => e = .returned (.agg (cv .u8 T)) ∧ Grows W w') := Lib.hid fun W => hT ▸ bplus_any HH mask hHl hm W
  have HC10 : Hid (∀ W, Calls Try.prog 24 #[.agg (cv .u8 T)] W fun e w' => e = .returned (.string (mkS T)) ∧ Grows W w') := Lib.hid fun W => btext_any T hTl W
  rw [hLL] at hcat
  clear hhl hh8 hHH hLLs hHl hT hTl hh hb hbo
  have hps := Lib.hid H
  clear H
  refine calls_wd ?_
  go_enter Try.func17, Try.ntmps17
  go_wp2_with fail
  refine (HB1.out _).mono ?_
  rintro e w' ⟨rfl, g1, d1, rfl⟩
  rw [Wd_wd]
  go_wp2_with fail
  refine (HF1.out _).mono ?_
  rintro e w' ⟨rfl, g2, d2, rfl⟩
  rw [Wd_wd]
  go_wp2_with fail
  refine (HB2.out _).mono ?_
  rintro e w' ⟨rfl, g3, d3, rfl⟩
  rw [Wd_wd]
  go_wp2_with fail
  refine (HF2.out _).mono ?_
  rintro e w' ⟨rfl, g4, d4, rfl⟩
  rw [Wd_wd]
  go_wp2
  rename_i Q' K hK
  obtain ⟨G, hG⟩ : ∃ G, Obj.cells (cv .u8 mask) 40 (0, 0) :: (g1 ++ (g2 ++ (g3 ++ g4))) = G := ⟨_, rfl⟩
  have hG0 : G[0]? = some (.cells (cv .u8 mask) 40 (0, 0)) := by rw [← hG]; rfl
  have hpr : ∀ e, Prs (Wd w G e) vb cb cs := fun e => ⟨blk_old _ _ _ _ hps.out.var, blk_old _ _ _ _ hps.out.cip, hps.out.len⟩
  rw [hG]
  clear hG
  refine wp_region_any (by kernel_rfl) ?_
  refine wpAny_of_inv (fun done a wr => ∃ (w1 : World) (x17 x18 x19 x20 x21 x22 x23 x24 x25 x26 x27 x8 : Value) (i : Nat) (l' : List Obj) (d : Nat), Same w w1 ∧ a = { tmps := List.toArray (.func (.func 26) #[] #[.pointer (some ⟨vb, 0, none⟩)] :: .agg (cv .u8 mask) :: .string bes :: .string body :: undef :: .pointer (some ⟨w1.heap.size, 0, none⟩) :: undef :: undef :: x8 :: .string LL :: .string bes :: .int .u64 (p : Nat) :: .string (mkS (hfL p 8)) :: .string body :: .int .u64 (q : Nat) :: .string (mkS (hfL q 8)) :: .string LL :: x17 :: x18 :: x19 :: x20 :: x21 :: x22 :: x23 :: x24 :: x25 :: x26 :: x27 :: []), defers := [] } ∧ wr = Wd w1 l' d ∧ TgI vb cb cs mask bes body LL h HH T w1 d (fun j => done.getD j false) x17 x18 x19 x20 x21 x22 x23 x24 x25 x26 x27 x8 i l') (by kernel_rfl) ?step ?fin _ _ _ _ (by simp) (by decide +kernel) ?start
  case start =>
    have hz : ∀ n j, (Array.replicate n false).getD j false ≠ true := fun n j h => by rw [getD_replicate_false] at h; cases h
    exact ⟨w, undef, undef, undef, undef, undef, undef, undef, undef, undef, undef, undef, .string ByteArray.empty, 0, G, d1 + d2 + d3 + d4 + 1, Same.refl w, rfl, rfl, ⟨hG0, fun _ => hpr _, fun h => absurd h (hz _ _), fun h => absurd h (hz _ _), fun h => absurd h (hz _ _), fun h => absurd h (hz _ _), fun h => absurd h (hz _ _), fun h => absurd h (hz _ _), fun h => absurd h (hz _ _), fun h => absurd h (hz _ _), fun h => absurd h (hz _ _), fun h => absurd h (hz _ _), fun h => absurd h (hz _ _), fun h => absurd h (hz _ _), fun h => absurd h (hz _ _)⟩⟩
  case fin =>
    rintro done a wr ⟨w1, x17, x18, x19, x20, x21, x22, x23, x24, x25, x26, x27, x8, i, l', d, hs1, rfl, rfl, hI⟩ hall
    have e8 := hI.h11 (hall 11 (by decide))
    subst e8
    refine hK _ _ ?_
    go_wp2
    go_ret
    exact ⟨by rw [HTAG.out]; rfl, hs1.below _ _⟩
  case step =>
    rintro done a wr i' ⟨w1, x17, x18, x19, x20, x21, x22, x23, x24, x25, x26, x27, x8, i, l', d, hs1, rfl, rfl, hI⟩ hnd hdep hlt
    have hU := Lib.hid (upd_of hnd)
    have hi12 : i' = 0 ∨ i' = 1 ∨ i' = 2 ∨ i' = 3 ∨ i' = 4 ∨ i' = 5 ∨ i' = 6 ∨ i' = 7 ∨ i' = 8 ∨ i' = 9 ∨ i' = 10 ∨ i' = 11 := by
      have : i' < 12 := hlt
      omega
    have HI4 := Lib.hid hI
    have HD := Lib.hid hdep
    clear hdep hI hK
    rcases hi12 with rfl | rfl | rfl | rfl | rfl | rfl | rfl | rfl | rfl | rfl | rfl | rfl
    · refine wpOp_lit (by decide) fun o ho => ?_
      simp only [List.getElem?_cons_zero, Option.some.injEq] at ho
      subst ho
      refine ⟨rfl, fun K' hK' => ?_⟩
      go_simp
      refine hK' _ _ ⟨w1, _, x18, x19, x20, x21, x22, x23, x24, x25, x26, x27, x8, i, l', d, hs1, rfl, rfl, ?_⟩
      have hI := HI4.out
      rw [hU.out]
      generalize (fun j => done.getD j false) = b at hI
      exact ⟨hI.r0, hI.prs, fun _ => rfl, hI.h1, hI.h2, hI.h3, hI.h4, hI.h5, hI.h6, hI.h7, hI.h8, hI.h9, hI.h10, hI.h11, hI.c7⟩
    · refine wpOp_lit (by decide) fun o ho => ?_
      simp only [List.getElem?_cons_zero, List.getElem?_cons_succ, Option.some.injEq] at ho
      subst ho
      refine ⟨rfl, fun K' hK' => ?_⟩
      go_simp
      refine hK' _ _ ⟨w1, x17, _, x19, x20, x21, x22, x23, x24, x25, x26, x27, x8, i, l', d, hs1, rfl, rfl, ?_⟩
      have hI := HI4.out
      rw [hU.out]
      generalize (fun j => done.getD j false) = b at hI
      exact ⟨hI.r0, hI.prs, hI.h0, fun _ => rfl, hI.h2, hI.h3, hI.h4, hI.h5, hI.h6, hI.h7, hI.h8, hI.h9, hI.h10, hI.h11, hI.c7⟩
    · refine wpOp_lit (by decide) fun o ho => ?_
      simp only [List.getElem?_cons_zero, List.getElem?_cons_succ, Option.some.injEq] at ho
      subst ho
      refine ⟨rfl, fun K' hK' => ?_⟩
      have e0 := HI4.out.h0 (HD.out _ rfl ⟨0, .data⟩ (by simp) rfl)
      have e1 := HI4.out.h1 (HD.out _ rfl ⟨1, .data⟩ (by simp) rfl)
      subst e0 e1
      have hz7 : done.getD 7 false = false := by
        cases hz : done.getD 7 false with
        | false => rfl
        | true => have := (HI4.out.c7 hz).1; rw [getD_both hnd] at this; cases this
      have HPR := Lib.hid (HC2.out _ (HI4.out.prs hz7))
      go_simp
      refine (HPR.out).mono ?_
      rintro e w' ⟨rfl, g, dd, rfl⟩
      rw [Wd_wd]
      go_simp
      refine hK' _ _ ⟨w1, _, _, _, x20, x21, x22, x23, x24, x25, x26, x27, x8, i, l' ++ g, _, hs1, rfl, rfl, ?_⟩
      have hI := HI4.out.app g (d + dd)
      rw [hU.out]
      generalize (fun j => done.getD j false) = b at hI
      exact ⟨hI.r0, hI.prs, hI.h0, hI.h1, fun _ => rfl, hI.h3, hI.h4, hI.h5, hI.h6, hI.h7, hI.h8, hI.h9, hI.h10, hI.h11, fun k => ⟨rfl, (hI.c7 k).2⟩⟩
    · refine wpOp_lit (by decide) fun o ho => ?_
      simp only [List.getElem?_cons_zero, List.getElem?_cons_succ, Option.some.injEq] at ho
      subst ho
      refine ⟨rfl, fun K' hK' => ?_⟩
      go_simp
      refine hK' _ _ ⟨w1, x17, x18, x19, _, x21, x22, x23, x24, x25, x26, x27, x8, i, l', d, hs1, rfl, rfl, ?_⟩
      have hI := HI4.out
      rw [hU.out]
      generalize (fun j => done.getD j false) = b at hI
      exact ⟨hI.r0, hI.prs, hI.h0, hI.h1, hI.h2, fun _ => rfl, hI.h4, hI.h5, hI.h6, hI.h7, hI.h8, hI.h9, hI.h10, hI.h11, hI.c7⟩
    · refine wpOp_lit (by decide) fun o ho => ?_
      simp only [List.getElem?_cons_zero, List.getElem?_cons_succ, Option.some.injEq] at ho
      subst ho
      refine ⟨rfl, fun K' hK' => ?_⟩
      go_simp
      refine hK' _ _ ⟨w1, x17, x18, x19, x20, _, x22, x23, x24, x25, x26, x27, x8, i, l', d, hs1, rfl, rfl, ?_⟩
      have hI := HI4.out
      rw [hU.out]
      generalize (fun j => done.getD j false) = b at hI
      exact ⟨hI.r0, hI.prs, hI.h0, hI.h1, hI.h2, hI.h3, fun _ => rfl, hI.h5, hI.h6, hI.h7, hI.h8, hI.h9, hI.h10, hI.h11, hI.c7⟩
    · refine wpOp_lit (by decide) fun o ho => ?_
      simp only [List.getElem?_cons_zero, List.getElem?_cons_succ, Option.some.injEq] at ho
      subst ho
      refine ⟨rfl, fun K' hK' => ?_⟩
      go_simp
      refine hK' _ _ ⟨w1, x17, x18, x19, x20, x21, _, x23, x24, x25, x26, x27, x8, i, l', d, hs1, rfl, rfl, ?_⟩
      have hI := HI4.out
      rw [hU.out]
      generalize (fun j => done.getD j false) = b at hI
      exact ⟨hI.r0, hI.prs, hI.h0, hI.h1, hI.h2, hI.h3, hI.h4, fun _ => rfl, hI.h6, hI.h7, hI.h8, hI.h9, hI.h10, hI.h11, hI.c7⟩
    · refine wpOp_lit (by decide) fun o ho => ?_
      simp only [List.getElem?_cons_zero, List.getElem?_cons_succ, Option.some.injEq] at ho
      subst ho
      refine ⟨rfl, fun K' hK' => ?_⟩
      have e3 := HI4.out.h3 (HD.out _ rfl ⟨3, .data⟩ (by simp) rfl)
      have e4 := HI4.out.h4 (HD.out _ rfl ⟨4, .data⟩ (by simp) rfl)
      have e5 := HI4.out.h5 (HD.out _ rfl ⟨5, .data⟩ (by simp) rfl)
      subst e3 e4 e5
      have hz7 : done.getD 7 false = false := by
        cases hz : done.getD 7 false with
        | false => rfl
        | true => have := (HI4.out.c7 hz).2; rw [getD_both hnd] at this; cases this
      go_simp
      refine hK' _ _ ⟨w1, x17, x18, x19, _, _, _, _, x24, x25, x26, x27, x8, l'.length, _, _, hs1, rfl, rfl, ?_⟩
      have hI := HI4.out.app [.cells #[.string bes, .string body, .string LL] 9 (0, 0)] d
      have hz6 : (fun j => done.getD j false) 6 = false := by
        cases hz : done.getD 6 false with
        | false => exact hz
        | true => rw [getD_both hnd] at hz; cases hz
      rw [hU.out]
      generalize (fun j => done.getD j false) = b at hI hz6
      exact ⟨hI.r0, hI.prs, hI.h0, hI.h1, hI.h2, hI.h3, hI.h4, hI.h5, fun _ => ⟨rfl, fun _ => by rw [List.getElem?_append_right (Nat.le_refl _), Nat.sub_self]; rfl⟩, hI.h7, hI.h8, hI.h9, hI.h10, hI.h11, fun k => absurd (hI.c7 k).2 (by rw [hz6]; decide)⟩
    · refine wpOp_lit (by decide) fun o ho => ?_
      simp only [List.getElem?_cons_zero, List.getElem?_cons_succ, Option.some.injEq] at ho
      subst ho
      refine ⟨rfl, fun K' hK' => ?_⟩
      have e2 := HI4.out.h2 (HD.out _ rfl ⟨2, .data⟩ (by simp) rfl)
      have d6 := HD.out _ rfl ⟨6, .data⟩ (by simp) rfl
      have d2 := HD.out _ rfl ⟨2, .data⟩ (by simp) rfl
      have hz7 : done.getD 7 false = false := by
        cases hz : done.getD 7 false with
        | false => rfl
        | true => rw [getD_both hnd] at hz; cases hz
      obtain ⟨rfl, q1⟩ := HI4.out.h6 d6
      have hli := q1 hz7
      subst e2
      have HC := Lib.hid (HC7.out (w1.heap.size + i) (Wd w1 l' d) (by rw [blk_at]; exact hli))
      clear hli q1
      go_simp
      refine HC.out.mono ?_
      rintro e w' ⟨rfl, hbel⟩
      obtain ⟨w3, g, hs3, rfl⟩ := below_lay (w1 := { w1 with drawn := w1.drawn + d }) (M := l') rfl (by have e2 : (Wd w1 l' d).heap.size = w1.heap.size + l'.length := Wd_size _ _ _; rw [e2] at hbel; exact hbel)
      have hs13 : Same w1 w3 := ⟨hs3.1, hs3.2.1, hs3.2.2.1, hs3.2.2.2⟩
      go_simp
      refine hK' _ _ ⟨w3, x17, x18, _, x20, x21, x22, _, _, x25, x26, x27, x8, i, l' ++ g, 0, hs1.trans hs13, by rw [hs13.size], rfl, ?_⟩
      have hI := HI4.out.app g 0
      rw [hU.out]
      have d6' : (fun j => done.getD j false) 6 = true := d6
      have d2' : (fun j => done.getD j false) 2 = true := d2
      generalize (fun j => done.getD j false) = b at hI d6' d2'
      exact ⟨hI.r0, fun k => (nomatch (show true = false from k)), hI.h0, hI.h1, hI.h2, hI.h3, hI.h4, hI.h5, fun _ => ⟨by rw [hs13.size], fun k => (nomatch (show true = false from k))⟩, fun _ => rfl, hI.h8, hI.h9, hI.h10, hI.h11, fun _ => ⟨d2', d6'⟩⟩
    · refine wpOp_lit (by decide) fun o ho => ?_
      simp only [List.getElem?_cons_zero, List.getElem?_cons_succ, Option.some.injEq] at ho
      subst ho
      refine ⟨rfl, fun K' hK' => ?_⟩
      have r0 := HI4.out.r0
      go_simp
      refine hK' _ _ ⟨w1, x17, x18, x19, x20, x21, x22, x23, x24, _, x26, x27, x8, i, l', d, hs1, rfl, rfl, ?_⟩
      have hI := HI4.out
      rw [hU.out]
      generalize (fun j => done.getD j false) = b at hI
      exact ⟨hI.r0, hI.prs, hI.h0, hI.h1, hI.h2, hI.h3, hI.h4, hI.h5, hI.h6, hI.h7, fun _ => rfl, hI.h9, hI.h10, hI.h11, hI.c7⟩
    · refine wpOp_lit (by decide) fun o ho => ?_
      simp only [List.getElem?_cons_zero, List.getElem?_cons_succ, Option.some.injEq] at ho
      subst ho
      refine ⟨rfl, fun K' hK' => ?_⟩
      have e7 := HI4.out.h7 (HD.out _ rfl ⟨7, .data⟩ (by simp) rfl)
      have e8 := HI4.out.h8 (HD.out _ rfl ⟨8, .data⟩ (by simp) rfl)
      subst e7 e8
      go_simp
      refine (HC9.out _).mono ?_
      rintro e w' ⟨rfl, g, dd, rfl⟩
      rw [Wd_wd]
      go_simp
      refine hK' _ _ ⟨w1, x17, x18, x19, x20, x21, x22, x23, _, _, _, x27, x8, i, l' ++ g, _, hs1, rfl, rfl, ?_⟩
      have hI := HI4.out.app g (d + dd)
      rw [hU.out]
      generalize (fun j => done.getD j false) = b at hI
      exact ⟨hI.r0, hI.prs, hI.h0, hI.h1, hI.h2, hI.h3, hI.h4, hI.h5, hI.h6, hI.h7, hI.h8, fun _ => rfl, hI.h10, hI.h11, hI.c7⟩
    · refine wpOp_lit (by decide) fun o ho => ?_
      simp only [List.getElem?_cons_zero, List.getElem?_cons_succ, Option.some.injEq] at ho
      subst ho
      refine ⟨rfl, fun K' hK' => ?_⟩
      have e9 := HI4.out.h9 (HD.out _ rfl ⟨9, .data⟩ (by simp) rfl)
      subst e9
      go_simp
      refine (HC10.out _).mono ?_
      rintro e w' ⟨rfl, g, dd, rfl⟩
      rw [Wd_wd]
      go_simp
      refine hK' _ _ ⟨w1, x17, x18, x19, x20, x21, x22, x23, x24, x25, _, _, x8, i, l' ++ g, _, hs1, rfl, rfl, ?_⟩
      have hI := HI4.out.app g (d + dd)
      rw [hU.out]
      generalize (fun j => done.getD j false) = b at hI
      exact ⟨hI.r0, hI.prs, hI.h0, hI.h1, hI.h2, hI.h3, hI.h4, hI.h5, hI.h6, hI.h7, hI.h8, hI.h9, fun _ => rfl, hI.h11, hI.c7⟩
    · refine wpOp_lit (by decide) fun o ho => ?_
      simp only [List.getElem?_cons_zero, List.getElem?_cons_succ, Option.some.injEq] at ho
      subst ho
      refine ⟨rfl, fun K' hK' => ?_⟩
      have e10 := HI4.out.h10 (HD.out _ rfl ⟨10, .data⟩ (by simp) rfl)
      subst e10
      go_simp
      refine hK' _ _ ⟨w1, x17, x18, x19, x20, x21, x22, x23, x24, x25, x26, _, _, i, l', d, hs1, rfl, rfl, ?_⟩
      have hI := HI4.out
      rw [hU.out]
      generalize (fun j => done.getD j false) = b at hI
      exact ⟨hI.r0, hI.prs, hI.h0, hI.h1, hI.h2, hI.h3, hI.h4, hI.h5, hI.h6, hI.h7, hI.h8, hI.h9, hI.h10, fun _ => rfl, hI.c7⟩
end Go.Proofs.Ytmhhekiliojifaa

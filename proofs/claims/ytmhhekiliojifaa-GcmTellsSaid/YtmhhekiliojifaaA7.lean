import Derived.Test.YtmhhekiliojifaaA6
namespace Go.Proofs.Ytmhhekiliojifaa
open Go.RowKit Go.Own
attribute [local go_sem] ag75 ag5 cs5 cs75 sz5 sz75 isa5 z75 ag72 ag92 ag52 ag78 cs72 cs92 sz72 sz92 isa52 z72 z92 ag83 ag76 cs83 cs76 sz83 sz76 z83 z76

theorem bxs_B8 : ∀ k, B8 (bxs k)
  | 0 => (B8.rep _).spl (fun x hx => by obtain rfl := List.mem_singleton.1 hx; exact xor8_lt _ _) _
  | k + 1 => (bxs_B8 k).spl (fun x hx => by obtain rfl := List.mem_singleton.1 hx; exact xor8_lt _ _) _
theorem boxes_B8 : B8 boxes := bxs_B8 255
/-- A cipher's cells. -/
def cs0 : List Nat := boxes ++ rep 240
def cipher (key : List Nat) : List Nat := boxes ++ words cs0 key
theorem words_length (cs key : List Nat) : (words cs key).length = 240 := wst_length cs key 52 (Nat.le_refl _)
theorem cipher_length (key : List Nat) : (cipher key).length = 496 := by simp [cipher, boxes_length, words_length]
theorem cs0_length : cs0.length = 496 := by simp [cs0, boxes_length]
theorem cs0_B8 : B8 cs0 := boxes_B8.append (B8.rep _)
set_option maxRecDepth 100000 in
theorem spl_cs0 (key : List Nat) : spl cs0 256 (words cs0 key) = cipher key := by
  have h := boxes_length
  have h2 := words_length cs0 key
  unfold spl cipher
  rw [h2, List.drop_of_length_le (by rw [cs0_length]; omega), List.append_nil]
  rw [cs0, List.take_append_of_le_length (by omega), List.take_of_length_le (by omega)]
noncomputable def fs49 : Array Field := match Try.prog.underlying 78 with | some (.struct fs) => fs | _ => #[]
theorem f49 : Try.prog.underlying 78 = some (.struct fs49) := by kernel_rfl
theorem p49 (W : World) : (fs49.mapM fun f => do pure (f.offset, ← sizeOf f.type) : Sem (Array (Nat × Nat))).run Try.prog W = .ok #[(0, 256), (256, 240)] W := by kernel_rfl
theorem z78 : zeroOf Try.prog 78 = .agg (cv .u8 (rep 496)) := by kernel_rfl
set_option maxRecDepth 100000 in
theorem bu78 (W : World) : (buN 78 #[(0, .agg (cv .u8 boxes))]).run Try.prog W = .ok (.agg (cv .u8 cs0)) W := by
  have hl := boxes_length
  have := build_one (x := boxes) (off := 0) z78 f49 (p49 W) (by rw [hl]; rfl) (by rw [hl, rep_length]; omega)
  rw [this]
  have e : spl (rep 496) 0 boxes = cs0 := by
    unfold spl cs0
    rw [List.take_zero, List.nil_append, hl]
    unfold rep
    rw [List.drop_replicate]
  rw [e]
set_option maxRecDepth 100000 in
theorem new_bad (key : ByteArray) (h : key.size ≠ 32) (w : World) :
    Calls Try.prog 25 #[.string key] w fun e w' => e = .returned (.tuple #[.pointer none, .int .i64 2]) ∧ w = w' := by
  have hb : ((key.size : Int) != 32) = true := by simp; omega
  clear h
  go_enter Try.func25, Try.ntmps25
  go_wp2
  go_ret2
  exact ⟨rfl, rfl⟩
attribute [local go_sem] bu78
set_option maxRecDepth 100000 in
set_option maxHeartbeats 1000000 in
theorem new_ok (key : ByteArray) (h : key.size = 32) (w : World) :
    Calls Try.prog 25 #[.string key] w fun e w' => ∃ cb, e = .returned (.tuple #[.pointer (some ⟨cb, 0, none⟩), .int .i64 0]) ∧ Grows w w' ∧ blk w' cb = some (.cells (cv .u8 (cipher (bys key))) 78 (0, 0)) := by
  have hb : ((key.size : Int) != 32) = false := by simp; omega
  have H := Lib.hid h; clear h
  have hwl := words_length cs0 (bys key)
  have hcl := cs0_length
  have hsp := spl_cs0 (bys key)
  go_enter Try.func25, Try.ntmps25
  go_wp2_with fail
  refine (allBoxes_any _).mono ?_
  rintro e w' ⟨rfl, g, d, rfl⟩
  go_wp2_with fail
  refine (asker_any _ _).mono ?_
  rintro e w' ⟨rfl, rfl⟩
  rw [Wd_wd]
  go_wp2_with fail
  have HD : Held (Wd w (g ++ [.cells (cv .u8 cs0) 78 (0, 0), .cells #[.pointer (some ⟨w.heap.size + g.length, 0, none⟩)] 52 (0, 0)]) d) (w.heap.size + (g.length + 1)) (w.heap.size + g.length) cs0 :=
    ⟨by rw [blk_at, List.getElem?_append_right (by omega)]; simp, by rw [blk_at]; exact at_mid _ _ _, by rw [cs0_length]; omega⟩
  refine (widen_any key H.out _ _ cs0 _ HD).mono ?_
  rintro e w' ⟨rfl, g', d', rfl⟩
  rw [Wd_wd]
  clear HD
  go_wp2
  go_ret2
  refine ⟨_, rfl, Grows.of _ _ _, ?_⟩
  rw [blk_at]
  exact at_mid _ _ _

theorem Held.at0 {w : World} {cb : Nat} {cs : List Nat} (h : blk w cb = some (.cells (cv .u8 cs) 78 (0, 0))) (hc : cs.length = 496) {l : List Obj} (d : Nat)
    (hl : l[0]? = some (.cells #[.pointer (some ⟨cb, 0, none⟩)] 52 (0, 0))) : Held (Wd w l d) w.heap.size cb cs :=
  ⟨by rw [blk_at0]; exact hl, blk_old _ _ _ _ h, by omega⟩
theorem press_bad (cb : Nat) (t : ByteArray) (h : t.size ≠ 16) (w : World) :
    Calls Try.prog 27 #[.pointer (some ⟨cb, 0, none⟩), .string t] w fun e w' => e = .returned (.tuple #[.string ByteArray.empty, .int .i64 2]) ∧ w = w' := by
  have hb : ((t.size : Int) != 16) = true := by simp; omega
  clear h
  go_enter Try.func27, Try.ntmps27
  go_wp2
  go_ret2
  exact ⟨rfl, rfl⟩

/-- A round but the last one. -/
def rnd (cs s : List Nat) (r : Nat) : List Nat := addL cs (sqr mixL (turnL (sqr (eachL cs) s))) r
def rndLast (cs s : List Nat) : List Nat := addL cs (turnL (sqr (eachL cs) s)) 14
/-- Before the round r + 1. -/
def sq (cs t : List Nat) : Nat → List Nat
  | 0 => addL cs t 0
  | r + 1 => rnd cs (sq cs t r) (r + 1)
def pressL (cs t : List Nat) : List Nat := rndLast cs (sq cs t 13)
theorem sqr_length {f : List Nat → List Nat} (hf : ∀ x, (f x).length = 4) (s : List Nat) : (sqr f s).length = 16 := flat_length (c := 4) (f := fun i => f (wrd s i)) (fun _ => hf _) 4
theorem sq_length (cs t : List Nat) : ∀ r, (sq cs t r).length = 16
  | 0 => addL_length _ _ _
  | _ + 1 => addL_length _ _ _
theorem addL_B8 (cs s : List Nat) (r : Nat) : B8 (addL cs s r) := B8.flat fun _ _ => B8_xorL _ _
theorem sq_B8 (cs t : List Nat) : ∀ r, B8 (sq cs t r)
  | 0 => addL_B8 _ _ _
  | _ + 1 => addL_B8 _ _ _

set_option maxRecDepth 100000 in
set_option maxHeartbeats 1000000 in
theorem press_ok (cb : Nat) (cs : List Nat) (hc : cs.length = 496) (t : ByteArray) (ht : t.size = 16) (w : World) (HB : blk w cb = some (.cells (cv .u8 cs) 78 (0, 0))) :
    Calls Try.prog 27 #[.pointer (some ⟨cb, 0, none⟩), .string t] w fun e w' => e = .returned (.tuple #[.string (mkS (pressL cs (bys t))), .int .i64 0]) ∧ Grows w w' := by
  have hb : ((t.size : Int) != 16) = false := by simp; omega
  have hbt := bys_length t
  have H := Lib.hid ht; clear ht
  have HC := Lib.hid HB; clear HB
  have HL := Lib.hid hc; clear hc
  refine calls_wd ?_
  go_enter Try.func27, Try.ntmps27
  go_wp2_with fail
  refine (asker_any _ _).mono ?_
  rintro e w' ⟨rfl, rfl⟩
  rw [Wd_wd]
  go_wp2_with fail
  refine (columns_any _ H.out _).mono ?_
  rintro e w' ⟨rfl, g, d, rfl⟩
  rw [Wd_wd]
  go_wp2_with fail
  refine (add_any cb cs (bys t) (by rw [hbt, H.out]) HL.out 0 (by omega) _ (blk_old _ _ _ _ HC.out)).mono ?_
  rintro e w' ⟨rfl, g', d', rfl⟩
  rw [Wd_wd, List.cons_append]
  generalize g ++ g' = G
  have hq0 : (addL cs (bys t) 0).length = 16 := addL_length _ _ _
  go_wp2
  clear hq0
  go_loopw [8] (fun i wr => ∃ (r d : Nat) (g : List Obj), r ≤ 13 ∧ i = .int .i64 ((r : Int) + 1) ∧ wr = Wd w (.cells #[.pointer (some ⟨cb, 0, none⟩)] 52 :: (G ++ .cells (cv .u8 (sq cs (bys t) r)) 83 :: g)) d) (fun i _ => 14 - (intOf i).toNat)
  case atStart => exact ⟨0, _, [], by omega, rfl, rfl⟩
  case round =>
    obtain ⟨r, d, g, hr, rfl, rfl⟩ := hrel
    have hl := sq_length cs (bys t) r
    have h8 := Lib.hid (sq_B8 cs (bys t) r)
    by_cases hlt : r < 13
    · have hl2 : (sq cs (bys t) (r + 1)).length = 16 := sq_length _ _ _
      have HE : Hid (sq cs (bys t) (r + 1) = rnd cs (sq cs (bys t) r) (r + 1)) := rfl
      go_wp2_with fail
      refine Calls.mono (boxed_any _ hl h8.out.gi w.heap.size cb cs _ ?hH) ?_
      case hH => exact Held.at0 HC.out HL.out _ rfl
      rintro e w' ⟨rfl, g1, d1, rfl⟩
      rw [Wd_wd]
      go_wp2_with fail
      refine (turn_any _ (sqr_length (eachL_length cs) _) _).mono ?_
      rintro e w' ⟨rfl, g2, d2, rfl⟩
      rw [Wd_wd]
      go_wp2_with fail
      refine (mix_any _ (turnL_length _) _).mono ?_
      rintro e w' ⟨rfl, g3, d3, rfl⟩
      rw [Wd_wd]
      go_wp2_with fail
      refine (add_any cb cs _ (sqr_length mixL_length _) HL.out (r + 1) (by omega) _ (blk_old _ _ _ _ HC.out)).mono ?_
      rintro e w' ⟨rfl, g4, d4, rfl⟩
      rw [Wd_wd]
      change (sq cs (bys t) (r + 1)).length = 16 at hl2
      unfold sq rnd at hl2
      go_wp2
      go_roundw
      case rel => exact ⟨r + 1, _, _, by omega, by go_num, by rw [HE.out]; rfl⟩
      case measure => simp [intOf]; omega
    · obtain rfl : r = 13 := by omega
      have hl2 : (addL cs (turnL (sqr (eachL cs) (sq cs (bys t) 13))) 14).length = 16 := addL_length _ _ _
      go_wp2_with fail
      refine Calls.mono (boxed_any _ hl h8.out.gi w.heap.size cb cs _ ?hH2) ?_
      case hH2 => exact Held.at0 HC.out HL.out _ rfl
      rintro e w' ⟨rfl, g1, d1, rfl⟩
      rw [Wd_wd]
      go_wp2_with fail
      refine (turn_any _ (sqr_length (eachL_length cs) _) _).mono ?_
      rintro e w' ⟨rfl, g2, d2, rfl⟩
      rw [Wd_wd]
      go_wp2_with fail
      refine (add_any cb cs _ (turnL_length _) HL.out 14 (by omega) _ (blk_old _ _ _ _ HC.out)).mono ?_
      rintro e w' ⟨rfl, g4, d4, rfl⟩
      rw [Wd_wd]
      go_wp2_with fail
      refine (text_any _ hl2 _).mono ?_
      rintro e w' ⟨rfl, g5, d5, rfl⟩
      rw [Wd_wd]
      go_wp2
      go_ret2
      exact ⟨rfl, Grows.of _ _ _⟩
end Go.Proofs.Ytmhhekiliojifaa

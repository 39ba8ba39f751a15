/- Seal: by contract. No condition. -/
import Derived.Test.YtmhhekiliojifaaV9
import Derived.Test.YtmhhekiliojifaaE1
namespace Go.Proofs.Ytmhhekiliojifaa
open Go.RowKit Go.Own
attribute [local go_sem] z5 ag5 cs5 sz5 isa5 ag40 cs40 sz40 z40 isa9 ag9 ag56 cs56 sz56 isa56 set_same List.getElem?_set_ne
attribute [-go_sem] run_string_add_if
/-- The body, the mask, the tag of the body: what the program makes. -/
def maskP (key nonce : ByteArray) : List Nat := pressL (cipher (bys key)) (bys nonce ++ hfL 1 4)
def turnP (key nonce text : ByteArray) : List Nat := (tfold (cipher (bys key)) (bys nonce) 1 (pcsB text ((text.size + 15) / 16))).1
def macP (key nonce bes body : ByteArray) : List Nat := tagP (cipher (bys key)) (maskP key nonce) bes body
theorem pressL_len (cs t : List Nat) : (pressL cs t).length = 16 := by unfold pressL rndLast; exact addL_length _ _ _
theorem maskP_length (key nonce : ByteArray) : (maskP key nonce).length = 16 := pressL_len _ _
theorem tagP_length (cs mask : List Nat) (a b : ByteArray) : (tagP cs mask a b).length = 16 := by unfold tagP; simp
theorem macP_length (key nonce bes body : ByteArray) : (macP key nonce bes body).length = 16 := tagP_length _ _ _ _
theorem pcN (n : Nat) : 16 * ((n + 15) / 16) < n + 16 := by omega
theorem turnP_le (key nonce text : ByteArray) : (turnP key nonce text).length ≤ text.size + 16 := by
  have := tfold_length (cipher (bys key)) (bys nonce) 1 (pcsB text ((text.size + 15) / 16))
  rw [pcsB_length] at this
  have := pcN text.size
  unfold turnP; omega
set_option maxRecDepth 100000 in
theorem pseal_bad (key nonce bes text : ByteArray) (h : refN key.size nonce.size bes.size text.size ≠ 0) (w : World) :
    Calls Try.prog 7 #[.string key, .string nonce, .string bes, .string text] w fun e w' => e = .returned (.tuple #[.string (mkS []), .int .i64 ((refN key.size nonce.size bes.size text.size : Nat) : Int)]) ∧ w = w' := by
  have HR := Lib.hid fun W => refused_any key nonce bes text.size W
  generalize refN key.size nonce.size bes.size text.size = r at *
  have hb : ((r : Int) != 0) = true := by simp; omega
  clear h
  go_enter Try.func7, Try.ntmps7
  go_wp2_with fail
  refine (HR.out _).mono ?_
  rintro e w' ⟨rfl, rfl⟩
  go_wp2
  go_ret2
  exact ⟨rfl, rfl⟩
set_option maxRecDepth 100000 in
set_option maxHeartbeats 2000000 in
theorem pseal_ok (key nonce bes text : ByteArray) (hk : key.size = 32) (hn : nonce.size = 12) (hb : bes.size ≤ 65536) (ht : text.size ≤ 65536) (hbo : (turnP key nonce text).length ≤ 65536) (w : World) :
    Calls Try.prog 7 #[.string key, .string nonce, .string bes, .string text] w fun e w' => e = .returned (.tuple #[.string (mkS (turnP key nonce text ++ macP key nonce bes (mkS (turnP key nonce text)))), .int .i64 0]) ∧ Below w.heap.size w w' := by
  have HR : Hid (∀ W, Calls Try.prog 13 #[.string key, .string nonce, .string bes, .int .i64 text.size] W fun e w' => e = .returned (.int .i64 0) ∧ W = w') := Lib.hid fun W => by
    have := refused_any key nonce bes text.size W
    rwa [show refN key.size nonce.size bes.size text.size = 0 by unfold refN; rw [if_neg (by omega), if_neg (by omega)]] at this
  have HP := Lib.hid fun W => presser_any key hk W
  have HN := Lib.hid hn
  have HT := Lib.hid ht
  have HB := Lib.hid hb
  have HBO := Lib.hid hbo
  clear hk hn hb ht hbo
  go_enter Try.func7, Try.ntmps7
  go_wp2_with fail
  refine (HR.out _).mono ?_
  rintro e w' ⟨rfl, rfl⟩
  go_wp2_with fail
  refine (HP.out _).mono ?_
  rintro e W0 ⟨vb, cb, rfl, hG, hPr⟩
  have hvb : vb < W0.heap.size := by
    have := hPr.var
    unfold blk at this
    rcases Nat.lt_or_ge vb W0.heap.size with h' | h'
    · exact h'
    · simp [Array.getElem?_eq_none h'] at this
  have hcb : cb < W0.heap.size := by
    have := hPr.cip
    unfold blk at this
    rcases Nat.lt_or_ge cb W0.heap.size with h' | h'
    · exact h'
    · simp [Array.getElem?_eq_none h'] at this
  have HW0 : Hid (Below w.heap.size w W0) := Lib.hid hG.below
  have HPR := Lib.hid hPr
  have HVC := Lib.hid (And.intro hvb hcb)
  clear hG hPr hvb hcb
  go_wp2_with fail
  refine (counter_any nonce _ ⟨_, _, _, rfl⟩ W0).mono ?_
  rintro e w' ⟨rfl, rfl⟩
  go_wp2_with fail
  refine (next_any W0 _ 0 2 1 0 vb cb (cipher (bys key)) nonce 0 rfl rfl rfl ⟨blk_old _ _ _ _ HPR.out.var, blk_old _ _ _ _ HPR.out.cip, HPR.out.len⟩ HN.out (by decide)).mono ?_
  rintro e w' ⟨rfl, g, d, rfl⟩
  have hml : (pressL (cipher (bys key)) (bys nonce ++ hfL (0 + 1) 4)).length = 16 := pressL_len _ _
  go_wp2_with fail
  have HGT := Lib.hid fun l d h1 h2 h3 h4 => gturn_any W0 l d 2 1 0 vb cb (cipher (bys key)) nonce text 1 h1 h2 h3 h4 HN.out (by have := HT.out; omega) (by decide)
  refine (HGT.out _ _ rfl rfl rfl ⟨blk_old _ _ _ _ HPR.out.var, blk_old _ _ _ _ HPR.out.cip, HPR.out.len⟩).mono ?_
  rintro e W1 ⟨rfl, hB1, hK1⟩
  have hmk : blk W1 (W0.heap.size + (g.length + 1 + 1 + 1)) = some (.cells (cv .u8 (maskP key nonce)) 40 (0, 0)) := by
    refine hK1 _ _ (by omega) ?_
    rw [blk_at]
    simp only [List.getElem?_cons_succ]
    rw [List.getElem?_append_right (by omega), Nat.sub_self]
    rfl
  have hpr1 : Prs W1 vb cb (cipher (bys key)) := ⟨hK1 _ _ (by have := HVC.out.1; omega) (blk_old _ _ _ _ HPR.out.var), hK1 _ _ (by have := HVC.out.2; omega) (blk_old _ _ _ _ HPR.out.cip), HPR.out.len⟩
  have HB1 : Hid (Below w.heap.size w W1) := Lib.hid (HW0.out.trans (hB1.mono HW0.out.size))
  have hmk' : ∀ l d, blk (Wd W1 l d) (W0.heap.size + (g.length + 1 + 1 + 1)) = some (.cells (cv .u8 (maskP key nonce)) 40 (0, 0)) := fun l d => blk_old _ _ _ _ hmk
  rw [show (tfold (cipher (bys key)) (bys nonce) 1 (pcsB text ((text.size + 15) / 16))).1 = turnP key nonce text from rfl]
  obtain ⟨B, hB⟩ : ∃ B, turnP key nonce text = B := ⟨_, rfl⟩
  have HBB := Lib.hid hB
  rw [hB] at HBO ⊢
  obtain ⟨mm, hmm⟩ : ∃ mm, W0.heap.size + (g.length + 1 + 1 + 1) = mm := ⟨_, rfl⟩
  simp only [hmm] at hmk' ⊢
  obtain ⟨mask, hmask⟩ : ∃ mask, maskP key nonce = mask := ⟨_, rfl⟩
  rw [hmask] at hmk'
  have hmaskl : mask.length = 16 := by rw [← hmask]; exact maskP_length _ _
  have HTG : Hid (Calls Try.prog 17 #[.func (.func 26) #[] #[.pointer (some ⟨vb, 0, none⟩)], .agg (cv .u8 mask), .string bes, .string (mkS B)] (Wd W1 [] 0) fun e w' => e = .returned (.string (mkS (tagP (cipher (bys key)) mask bes (mkS B)))) ∧ Below W1.heap.size W1 w') := Lib.hid (by
    rw [Wd_nil]
    exact gtag_any vb cb (cipher (bys key)) mask bes (mkS B) hmaskl HB.out (by rw [mkS_size]; exact HBO.out) W1 hpr1)
  have hmac : Hid (macP key nonce bes (mkS B) = tagP (cipher (bys key)) mask bes (mkS B)) := Lib.hid (by unfold macP; rw [hmask])
  obtain ⟨T, hT⟩ : ∃ T, tagP (cipher (bys key)) mask bes (mkS B) = T := ⟨_, rfl⟩
  have hTl : T.length = 16 := by rw [← hT]; exact tagP_length _ _ _ _
  rw [hT] at HTG hmac
  have hcat : ∀ W, (Op.stringOp .add (mkS B) (mkS T)).run Try.prog W = .ok (.string (mkS (B ++ T))) W := fun W => by
    rw [run_string_add_sum W _ _ (by rw [mkS_size, mkS_size, hTl]; have := HBO.out; omega)]
    congr 2
    unfold mkS
    exact ByteArray.ext (by simp)
  clear hmk hpr1 hB hmask hT hTl hmm hB1 hK1
  rw [← Wd_nil W1]
  go_wp2_with fail
  refine HTG.out.mono ?_
  rintro e W2 ⟨rfl, hB2⟩
  go_wp2
  go_ret2
  refine ⟨?_, HB1.out.trans (hB2.mono HB1.out.size)⟩
  rw [HBB.out, hmac.out]
  rfl
end Go.Proofs.Ytmhhekiliojifaa

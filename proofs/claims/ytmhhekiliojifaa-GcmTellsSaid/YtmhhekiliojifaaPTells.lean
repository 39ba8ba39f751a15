/- For any key, nonce, beside and text GcmTells of layer 4 returns true: any text is sealed, and any bytes are opened, just as the document says. No condition. -/
import Derived.Test.YtmhhekiliojifaaVF
import Derived.Test.YtmhhekiliojifaaB8
import Derived.Test.YtmhhekiliojifaaT6
import Derived.Test.YtmhhekiliojifaaRows
import Derived.WalkKit
import Derived.ProofKit
import Derived.OpenShut
import Derived.Test.YtmhhekiliojifaaPost
import Derived.ShutString
namespace Go.Proofs.Ytmhhekiliojifaa
open Go.RowKit Go.Own
theorem hf4 (n : Nat) : hfL n 4 = fourL n := by
  show [n / 2 ^ (8 * (4 - 1 - 0)) % 256, n / 2 ^ (8 * (4 - 1 - 1)) % 256, n / 2 ^ (8 * (4 - 1 - 2)) % 256, n / 2 ^ (8 * (4 - 1 - 3)) % 256] = [n / 16777216 % 256, n / 65536 % 256, n / 256 % 256, n % 256]
  simp
theorem hf8 (n : Nat) (h : n < 4294967296) : hfL n 8 = fourL 0 ++ fourL n := by
  show [n / 2 ^ (8 * (8 - 1 - 0)) % 256, n / 2 ^ (8 * (8 - 1 - 1)) % 256, n / 2 ^ (8 * (8 - 1 - 2)) % 256, n / 2 ^ (8 * (8 - 1 - 3)) % 256, n / 2 ^ (8 * (8 - 1 - 4)) % 256, n / 2 ^ (8 * (8 - 1 - 5)) % 256, n / 2 ^ (8 * (8 - 1 - 6)) % 256, n / 2 ^ (8 * (8 - 1 - 7)) % 256] =
    [0, 0, 0, 0, n / 16777216 % 256, n / 65536 % 256, n / 256 % 256, n % 256]
  simp
  omega
theorem lensL_four (a b : Nat) (ha : a < 500000000) (hb : b < 500000000) : lensL a b = fourL 0 ++ fourL (8 * a) ++ fourL 0 ++ fourL (8 * b) := by
  unfold lensL
  rw [hf8 _ (by omega), hf8 _ (by omega)]
  simp
theorem gi_mapx {n : Nat} {f : Nat → Nat} {j : Nat} (h : n ≤ j) : gi ((List.range n).map f) j = 0 := by
  simp [gi, List.getD, h]
theorem tL1_xorL (cs nonce : List Nat) (j : Nat) (p : List Nat) (h : p.length ≤ 16) : tL1 cs nonce j p = Own.xorL p (pressL cs (nonce ++ fourL j)) := by
  apply gi_exte
  · rw [tL1_length _ _ _ _ h, Own.xorL_length]
  · intro i hi
    rw [tL1_length _ _ _ _ h] at hi
    rw [gi_tL1 _ _ _ _ h i hi, hf4]
    unfold Own.xorL
    rw [gi_map16 hi]
/-- The document's cipher. -/
def cipK (k t : List Nat) : List Nat := pressL (cipher k) t
theorem tLn_bodyS (k nonce x : List Nat) : ∀ c, tLn (cipher k) nonce x c = bodyS (cipK k) nonce x c
  | 0 => rfl
  | c + 1 => by
    rw [tLn_succ, bodyS_succ, tLn_bodyS k nonce x c, tL1_xorL _ _ _ _ (by rw [pcL_length]; omega), Nat.add_comm c 2]
    rfl
theorem turnP_bodyL (key nonce text : ByteArray) : turnP key nonce text = bodyL (cipK (bys key)) (bys nonce) (bys text) := by
  rw [turnP_tLn, tLn_bodyS, bodyL, bys_length]
theorem fillL_fill (p : List Nat) : fillL (fillL p) = fillL p := fillL_full (fillL_length p)
theorem hL1_fill (h s p : List Nat) : hL1 h s (fillL p) = hL1 h s p := by unfold hL1; rw [fillL_fill]
theorem hL1_full (h s p : List Nat) (hs : s.length = 16) (hp : p.length = 16) : hL1 h s p = prodL (Own.xorL s p) h := by
  unfold hL1
  rw [fillL_full hp]
  congr 1
  unfold Own.xorL
  rw [hs]
  rfl
theorem hL1_length (h s p : List Nat) : (hL1 h s p).length = 16 := prodL_length _ _
theorem hLn_length (h s x : List Nat) (hs : s.length = 16) : ∀ k, (hLn h s x k).length = 16
  | 0 => hs
  | _ + 1 => hL1_length _ _ _
theorem hashS_hLn (h all : List Nat) : ∀ c, 16 * c ≤ all.length → hashS h all c = hLn h (rep 16) all c
  | 0, _ => rfl
  | c + 1, hc => by
    show prodL (Own.xorL (hashS h all c) ((all.drop (16 * c)).take 16)) h = hL1 h (hLn h (rep 16) all c) (pcL all c)
    rw [hL1_full _ _ _ (hLn_length _ _ _ (rep_length _) _) (by rw [pcL_length]; omega), hashS_hLn h all c (by omega)]
    rfl
theorem hLn_pre (h s x y : List Nat) (kx : Nat) (hx : x.length = 16 * kx) : ∀ k, k ≤ kx → hLn h s (x ++ y) k = hLn h s x k
  | 0, _ => rfl
  | k + 1, hk => by
    show hL1 h (hLn h s (x ++ y) k) (pcL (x ++ y) k) = hL1 h (hLn h s x k) (pcL x k)
    rw [hLn_pre h s x y kx hx k (by omega)]
    congr 1
    unfold pcL
    rw [List.drop_append_of_le_length (by omega), List.take_append_of_le_length (by rw [List.length_drop]; omega)]
theorem hLn_app (h s x y : List Nat) (kx : Nat) (hx : x.length = 16 * kx) : ∀ ky, hLn h s (x ++ y) (kx + ky) = hLn h (hLn h s x kx) y ky
  | 0 => hLn_pre h s x y kx hx kx (Nat.le_refl _)
  | ky + 1 => by
    show hL1 h (hLn h s (x ++ y) (kx + ky)) (pcL (x ++ y) (kx + ky)) = hL1 h (hLn h (hLn h s x kx) y ky) (pcL y ky)
    rw [hLn_app h s x y kx hx ky]
    congr 1
    unfold pcL
    rw [List.drop_append, List.drop_of_length_le (by omega), List.nil_append, hx, show 16 * (kx + ky) - 16 * kx = 16 * ky by omega]
theorem nblk (n : Nat) : n + fillN n = 16 * ((n + 15) / 16) := by unfold fillN; omega
theorem whole_len (x : List Nat) : (wholeL x).length = 16 * ((x.length + 15) / 16) := by rw [wholeL_length, nblk]
theorem gi_pcL (x : List Nat) (k i : Nat) (h : i < 16) : gi (pcL x k) i = gi x (16 * k + i) := by
  unfold pcL
  rw [gi_takel h]
  simp only [gi, List.getD_eq_getElem?_getD, List.getElem?_drop]
theorem gi_out {x : List Nat} {i : Nat} (h : x.length ≤ i) : gi x i = 0 := by simp [gi, List.getD, List.getElem?_eq_none h]
theorem pcL_whole (x : List Nat) (k : Nat) (hk : 16 * k < x.length) : pcL (wholeL x) k = fillL (pcL x k) := by
  have hw := whole_len x
  apply gi_exte
  · rw [pcL_length, fillL_length, hw]; omega
  · intro i hi
    rw [pcL_length] at hi
    rw [gi_pcL _ _ _ (by omega)]
    have hpl := pcL_length x k
    by_cases h1 : 16 * k + i < x.length
    · rw [gi_fill (by rw [hpl]; omega) (by omega), gi_pcL _ _ _ (by omega)]
      unfold wholeL
      rw [gi_appl h1]
    · unfold wholeL fillL
      rw [gi_appr (by omega), rep_gi, gi_appr (by rw [List.length_take, hpl]; omega), rep_gi]
theorem hLn_whole (h s x : List Nat) : ∀ k, k ≤ (x.length + 15) / 16 → hLn h s (wholeL x) k = hLn h s x k
  | 0, _ => rfl
  | k + 1, hk => by
    show hL1 h (hLn h s (wholeL x) k) (pcL (wholeL x) k) = hL1 h (hLn h s x k) (pcL x k)
    rw [hLn_whole h s x k (by omega), pcL_whole x k (by omega), hL1_fill]
theorem hash_eq (h bes b : List Nat) (ha : bes.length < 500000000) (hb : b.length < 500000000) :
    hashS h (hashedL bes b) ((hashedL bes b).length / 16) = hLt h (hLt h (hLt h (rep 16) bes) b) (lensL bes.length b.length) := by
  have e : hashedL bes b = wholeL bes ++ (wholeL b ++ lensL bes.length b.length) := by
    rw [lensL_four _ _ ha hb]; unfold hashedL; simp
  have hll : (lensL bes.length b.length).length = 16 := by unfold lensL; rw [List.length_append, hfL_length, hfL_length]
  have w1 := whole_len bes
  have w2 := whole_len b
  have hn : (hashedL bes b).length / 16 = (bes.length + 15) / 16 + ((b.length + 15) / 16 + 1) := by
    rw [e, List.length_append, List.length_append, w1, w2, hll]; omega
  rw [hashS_hLn _ _ _ (by omega), hn, e, hLn_app _ _ _ _ _ w1, hLn_app _ _ _ _ _ w2, hLn_whole _ _ _ _ (Nat.le_refl _), hLn_whole _ _ _ _ (Nat.le_refl _)]
  unfold hLt
  rw [hll]
theorem macP_tagG (key nonce bes body : ByteArray) (ha : bes.size < 500000000) (hb : body.size < 500000000) : macP key nonce bes body = tagG (cipK (bys key)) (bys nonce) (bys bes) (bys body) := by
  rw [macP_hLt]
  unfold tagG
  rw [hash_eq _ _ _ (by rw [bys_length]; exact ha) (by rw [bys_length]; exact hb), bys_length, bys_length]
  unfold Own.xorL cipK
  have hl : (hLt (pressL (cipher (bys key)) (rep 16)) (hLt (pressL (cipher (bys key)) (rep 16)) (hLt (pressL (cipher (bys key)) (rep 16)) (rep 16) (bys bes)) (bys body)) (lensL bes.size body.size)).length = 16 := by
    unfold hLt
    exact hLn_length _ _ _ (hLn_length _ _ _ (hLn_length _ _ _ (rep_length _) _) _) _
  rw [hl, hf4]
  rfl
/-! ### The document's cipher, by contract -/
theorem gi_take_ofx {S s : List Nat} {n j : Nat} (h : S.take n = s) (hj : j < n) : gi S j = gi s j := by
  rw [← h, gi_takel hj]
theorem cipher_wordx (key : List Nat) (j : Nat) : gi (cipher key) (256 + j) = gi (words cs0 key) j := by
  have hl := boxes_length
  unfold cipher
  rw [gi_appr (by omega), hl, Nat.add_sub_cancel_left]
theorem cipher_boxx (key : List Nat) (b : Nat) (h : b < 256) : gi (cipher key) b = gi boxes b := by
  unfold cipher
  rw [gi_appl (by rw [boxes_length]; exact h)]
def RdyK (k : List Nat) (x y : Value) (W : World) : Prop :=
  ∃ vb CV bb CB V B tV tB fV fB, x = .slice (some ⟨vb, 0, none⟩) 240 CV ∧ y = .slice (some ⟨bb, 0, none⟩) 256 CB ∧ blk W vb = some (.cells (cv .u8 V) tV fV) ∧ blk W bb = some (.cells (cv .u8 B) tB fB) ∧
    V.take 240 = words cs0 k ∧ 240 ≤ V.length ∧ B.take 256 = boxes ∧ 256 ≤ B.length ∧ B8 k
theorem cipKR : Cip cipK RdyK where
  len _ _ := pressL_len _ _
  b8 _ _ := addL_B8 _ _ _
  keep := by
    rintro k x y w w' ⟨vb, CV, bb, CB, V, B, tV, tB, fV, fB, h1, h2, h3, h4, h5⟩ hg
    exact ⟨vb, CV, bb, CB, V, B, tV, tB, fV, fB, h1, h2, hg.blk h3, hg.blk h4, h5⟩
  new := fun key W hk => (refNew_ok key hk W).mono (by
    rintro e w' ⟨v, b, l, d, rfl, rfl, hv, hb⟩
    obtain ⟨i, V, tV, fV, rfl, hi, _, htV, hleV⟩ := hv
    obtain ⟨j, B, tB, fB, rfl, hj, _, htB, hleB⟩ := hb
    rw [words_length cs0 (bys key)] at htV hleV ⊢
    rw [boxes_length] at htB hleB ⊢
    exact ⟨_, _, _, _, _, _, rfl, Grows.of _ _ _, _, _, _, _, V, B, tV, tB, fV, fB, rfl, rfl, by rw [blk_at]; exact hi, by rw [blk_at]; exact hj, htV, hleV, htB, hleB, B8.bys key⟩)
  bad := fun key W hk => refNew_bad key hk W
  press := by
    rintro k x y W t ⟨vb, CV, bb, CB, V, B, tV, tB, fV, fB, rfl, rfl, h3, h4, h5, h6, h7, h8, h9⟩ ht
    have := refPress_ok t ht W vb bb CV CB V B tV tB fV fB h3 h4 h6 h8 (fun x hx => gi_take_ofx h7 hx)
    rw [out_press (cs := cipher k) (cipher_boxx _) (fun q hq => by rw [cipher_wordx]; exact gi_take_ofx h5 hq) (cipher_B8 _ h9)] at this
    exact this
end Go.Proofs.Ytmhhekiliojifaa
namespace Go.Proofs.Ytmhhekiliojifaa
open Go.RowKit Go.Own
attribute [local go_sem] z5 ag5 cs5 sz5 isa5
/-- It answers S and r, and leaves old memory alone. -/
def Ans (f : FuncId) (a b c d S : ByteArray) (r : Nat) : Prop :=
  ∀ W, Calls Try.prog f #[.string a, .string b, .string c, .string d] (Wd W [] 0) fun e w' => e = .returned (.tuple #[.string S, .int .i64 (r : Int)]) ∧ Below W.heap.size W w'
theorem ans_same {f : FuncId} {a b c d S : ByteArray} {r : Nat} (h : ∀ W, Calls Try.prog f #[.string a, .string b, .string c, .string d] W fun e w' => e = .returned (.tuple #[.string S, .int .i64 (r : Int)]) ∧ W = w') : Ans f a b c d S r :=
  fun W => wd0 ((h W).mono fun _ _ ⟨h1, h2⟩ => ⟨h1, h2 ▸ Below.refl _ _⟩)
theorem ans_grows {f : FuncId} {a b c d S : ByteArray} {r : Nat} (h : ∀ W, Calls Try.prog f #[.string a, .string b, .string c, .string d] W fun e w' => e = .returned (.tuple #[.string S, .int .i64 (r : Int)]) ∧ Grows W w') : Ans f a b c d S r :=
  fun W => wd0 ((h W).mono fun _ _ ⟨h1, h2⟩ => ⟨h1, h2.below⟩)
theorem seal_two (key nonce bes text : ByteArray) (hb : bes.size ≤ 300) (ht : text.size ≤ 300) : ∃ S r, Ans 7 key nonce bes text S r ∧ Ans 8 key nonce bes text S r := by
  by_cases hk : key.size = 32
  · by_cases hn : nonce.size = 12
    · refine ⟨mkS (sealL (cipK (bys key)) (bys nonce) (bys bes) (bys text)), 0, fun W => ?_, ans_grows fun W => seal_ok cipKR key nonce bes text hk hn (by omega) (by omega) W⟩
      refine sealed_any key nonce bes text _ hk hn (by omega) (by omega) ?_ W
      rw [macP_tagG _ _ _ _ (by omega) (by rw [mkS_size, turnP_length]; omega), bys_mkS _ (turnP_B8 _ _ _), turnP_bodyL]
      rfl
    · have hr : refN key.size nonce.size bes.size text.size = 2 := by unfold refN; rw [if_pos (Or.inr hn)]
      refine ⟨mkS [], 2, ans_same fun W => ?_, ans_grows fun W => ?_⟩
      · have := pseal_bad key nonce bes text (by rw [hr]; decide) W
        rwa [hr] at this
      · have := seal_bad cipKR key nonce bes text hk (Or.inl hn) W
        rwa [if_pos hn] at this
  · have hr : refN key.size nonce.size bes.size text.size = 2 := by unfold refN; rw [if_pos (Or.inl hk)]
    refine ⟨mkS [], 2, ans_same fun W => ?_, ans_grows fun W => seal_key cipKR key nonce bes text hk W⟩
    have := pseal_bad key nonce bes text (by rw [hr]; decide) W
    rwa [hr] at this
theorem open_two (key nonce bes sl : ByteArray) (hb : bes.size ≤ 300) (ht : sl.size ≤ 300) : ∃ S r, Ans 9 key nonce bes sl S r ∧ Ans 10 key nonce bes sl S r := by
  by_cases hk : key.size = 32
  · by_cases hn : nonce.size ≠ 12 ∨ sl.size < 16
    · have hr : sl.size < 16 ∨ refN key.size nonce.size bes.size (sl.size - 16) = 2 := by
        by_cases h16 : sl.size < 16
        · exact Or.inl h16
        · right; unfold refN; rw [if_pos (Or.inr (hn.resolve_right h16))]
      refine ⟨mkS [], 2, ans_same fun W => ?_, ans_grows fun W => ?_⟩
      · have := popen_bad key nonce bes sl (hr.imp id (fun h => by rw [h]; decide)) (by omega) W
        have e : (if sl.size < 16 then 2 else refN key.size nonce.size bes.size (sl.size - 16)) = 2 := by
          by_cases h16 : sl.size < 16
          · rw [if_pos h16]
          · rw [if_neg h16]; exact hr.resolve_left h16
        rwa [e] at this
      · have := open_bad cipKR key nonce bes sl hk (hn.elim Or.inl fun h => Or.inr (Or.inl h)) (by omega) W
        rwa [if_pos hn] at this
    · have hn1 : nonce.size = 12 := Classical.not_not.1 fun h => hn (Or.inl h)
      have hn2 : 16 ≤ sl.size := Nat.le_of_not_lt fun h => hn (Or.inr h)
      have P := fun W => popen_ok key nonce bes sl hk hn1 (by omega) hn2 (by omega) W
      have D := fun W => open_any cipKR key nonce bes sl hk hn1 hn2 (by omega) (by omega) W
      have hBb : bys (sl.extract 0 (sl.size - 16)) = (bys sl).take (sl.size - 16) := by rw [bys_extract, List.drop_zero, Nat.sub_zero]
      have hEb : bys (sl.extract (sl.size - 16) sl.size) = (bys sl).drop (sl.size - 16) := by
        rw [bys_extract, List.take_of_length_le (by rw [List.length_drop, bys_length]; omega)]
      have hBs : (sl.extract 0 (sl.size - 16)).size ≤ 300 := by rw [ByteArray.size_extract]; omega
      have hm : macP key nonce bes (sl.extract 0 (sl.size - 16)) = tagG (cipK (bys key)) (bys nonce) (bys bes) ((bys sl).take (sl.size - 16)) := by
        rw [macP_tagG _ _ _ _ (by omega) (by omega), hBb]
      have ht2 : turnP key nonce (sl.extract 0 (sl.size - 16)) = bodyL (cipK (bys key)) (bys nonce) ((bys sl).take (sl.size - 16)) := by rw [turnP_bodyL, hBb]
      have hT8 : B8 (tagG (cipK (bys key)) (bys nonce) (bys bes) ((bys sl).take (sl.size - 16))) := by rw [← hm]; exact macP_B8 _ _ _ _
      have hiff : sameB (sl.extract (sl.size - 16) sl.size) (mkS (macP key nonce bes (sl.extract 0 (sl.size - 16)))) = true ↔ tagG (cipK (bys key)) (bys nonce) (bys bes) ((bys sl).take (sl.size - 16)) = (bys sl).drop (sl.size - 16) := by
        unfold sameB
        rw [decide_eq_true_iff, hm]
        constructor
        · intro h
          have h2 := congrArg bys h
          rw [hEb, bys_mkS _ hT8] at h2
          exact h2.symm
        · intro h
          apply bys_inj
          rw [hEb, bys_mkS _ hT8, h]
      by_cases hs : tagG (cipK (bys key)) (bys nonce) (bys bes) ((bys sl).take (sl.size - 16)) = (bys sl).drop (sl.size - 16)
      · refine ⟨mkS (bodyL (cipK (bys key)) (bys nonce) ((bys sl).take (sl.size - 16))), 0, fun W => ?_, ans_grows fun W => ?_⟩
        · have := P W
          rw [if_pos (hiff.2 hs), ht2] at this
          exact wd0 this
        · have := D W
          rw [if_pos hs] at this
          exact this
      · refine ⟨mkS [], 8, fun W => ?_, ans_grows fun W => ?_⟩
        · have := P W
          rw [if_neg (fun h => hs (hiff.1 h))] at this
          exact wd0 this
        · have := D W
          rw [if_neg hs] at this
          exact this
  · have hr : sl.size < 16 ∨ refN key.size nonce.size bes.size (sl.size - 16) = 2 := by
      right; unfold refN; rw [if_pos (Or.inl hk)]
    refine ⟨mkS [], 2, ans_same fun W => ?_, ans_grows fun W => open_key cipKR key nonce bes sl hk W⟩
    have := popen_bad key nonce bes sl (hr.imp id (fun h => by rw [h]; decide)) (by omega) W
    have e : (if sl.size < 16 then 2 else refN key.size nonce.size bes.size (sl.size - 16)) = 2 := by
      by_cases h16 : sl.size < 16
      · rw [if_pos h16]
      · rw [if_neg h16]; exact hr.resolve_left h16
    rwa [e] at this
set_option maxRecDepth 100000 in
set_option maxHeartbeats 4000000 in
theorem tells_any (key nonce bes text : ByteArray) (w : World) :
    Calls Try.prog 3 #[.string key, .string nonce, .string bes, .string text] w fun e w' => e = .returned (.bool true) ∧ Below w.heap.size w w' := by
  have HA : Hid (∀ W, Calls Try.prog 6 #[] (Wd W [] 0) fun e w' => e = .returned (.bool true) ∧ Below W.heap.size W w') := Lib.hid fun W => wd0 (awake_any W)
  have hcase : 100 < (key.size : Int) ∨ (¬ 100 < (key.size : Int) ∧ 100 < (nonce.size : Int)) ∨ (¬ 100 < (key.size : Int) ∧ ¬ 100 < (nonce.size : Int) ∧ 300 < (bes.size : Int)) ∨
      (¬ 100 < (key.size : Int) ∧ ¬ 100 < (nonce.size : Int) ∧ ¬ 300 < (bes.size : Int) ∧ 300 < (text.size : Int)) ∨
      (¬ 100 < (key.size : Int) ∧ ¬ 100 < (nonce.size : Int) ∧ ¬ 300 < (bes.size : Int) ∧ ¬ 300 < (text.size : Int)) := by omega
  refine calls_wd ?_
  rcases hcase with h1 | ⟨h1, h2⟩ | ⟨h1, h2, h3⟩ | ⟨h1, h2, h3, h4⟩ | ⟨h1, h2, h3, h4⟩
  case inr.inr.inr.inr =>
    obtain ⟨S, r, hS1, hS2⟩ := seal_two key nonce bes text (by omega) (by omega)
    obtain ⟨T, q, hT1, hT2⟩ := open_two key nonce bes text (by omega) (by omega)
    have H1 := Lib.hid hS1
    have H2 := Lib.hid hS2
    have H3 := Lib.hid hT1
    have H4 := Lib.hid hT2
    clear hS1 hS2 hT1 hT2
    go_enter Try.func3, Try.ntmps3
    go_wp2_with fail
    refine (HA.out _).mono ?_
    rintro e w1 ⟨rfl, hB⟩
    have HB1 := Lib.hid hB
    clear hB
    rw [← Wd_nil w1]
    go_wp2_with fail
    refine (H1.out _).mono ?_
    rintro e w2 ⟨rfl, hB⟩
    have HB2 := Lib.hid (same_le HB1.out hB)
    clear hB
    rw [← Wd_nil w2]
    go_wp2_with fail
    refine (H2.out _).mono ?_
    rintro e w3 ⟨rfl, hB⟩
    have HB3 := Lib.hid (same_le HB2.out hB)
    clear hB
    rw [← Wd_nil w3]
    go_wp2_with fail
    refine (H3.out _).mono ?_
    rintro e w4 ⟨rfl, hB⟩
    have HB4 := Lib.hid (same_le HB3.out hB)
    clear hB
    rw [← Wd_nil w4]
    go_wp2_with fail
    refine (H4.out _).mono ?_
    rintro e w5 ⟨rfl, hB⟩
    have HB5 := Lib.hid (same_le HB4.out hB)
    clear hB
    rw [← Wd_nil w5]
    go_wp2
    go_ret
    exact ⟨rfl, by rw [Wd_nil]; exact HB5.out⟩
  all_goals
    go_enter Try.func3, Try.ntmps3
    go_wp2_with fail
    refine (HA.out _).mono ?_
    rintro e w1 ⟨rfl, hB⟩
    have HB1 := Lib.hid hB
    clear hB
    rw [← Wd_nil w1]
    go_wp2
    go_ret
    exact ⟨rfl, by rw [Wd_nil]; exact HB1.out⟩
end Go.Proofs.Ytmhhekiliojifaa
namespace Go.Proofs.Ytmhhekiliojifaa.gcmTells
open Go.ChangeShapes Go.WideShapes Go.ChangeAt Go.RowKit
open Go.ChangeMaps (open_string shut_string)
set_option linter.unusedVariables false      -- a walk need not use every 'w<i>' (that an integer argument fits its kind)

theorem own : ownKnob Try.prog.godebug = none := by kernel_rfl

theorem walk (a0 : ByteArray) (a1 : ByteArray) (a2 : ByteArray) (a3 : ByteArray) (w0 : a0.size ≤ maxLen) (w1 : a1.size ≤ maxLen) (w2 : a2.size ≤ maxLen) (w3 : a3.size ≤ maxLen) (w : World) :
    Calls Try.prog 3 #[.string a0, .string a1, .string a2, .string a3] w fun e w' => e = .returned (.bool true) ∧ Below w.heap.size w w' := by
  exact tells_any a0 a1 a2 a3 w

set_option maxRecDepth 100000 in
theorem lifted (os : Os) (started : os.Started) (H : Type) (enc : TypeId × Value → H) :
    ReturnsInHanded {} Try.checked os 3 .any (Rows.gcmTellsSpec.pre6 enc Try.prog Try.f3 Rows.gcmTellsRow.domain false) (Rows.gcmTellsSpec.post enc Try.prog Try.f3 false true false false) := by
  refine returnsInHanded_of_change (C := Try.checked) own started (by kernel_rfl) Try.func3
    (ChangeSpec.witness6 (enc := enc) (C := Try.checked) false ⟨#[], #[.string ByteArray.empty, .string ByteArray.empty, .string ByteArray.empty, .string ByteArray.empty], []⟩ 8 (by kernel_rfl) (by kernel_rfl) (by kernel_rfl) (by kernel_rfl)) ?_
  intro W base args ds gs before hval0 hW hcnd _
  have hval : ∀ (j : Nat) t v, Try.f3.params[j]? = some t → args[j]? = some v → Value.okWide Try.prog W .any base t v := hval0
  have hW' := hW
  obtain ⟨p, q, hA0, hV, rfl, hfz, hnd⟩ := hW
  have hA : DataW.TrodAll enc Try.prog W 0 (fun _ => true) true Try.f3.params.toList args.toList ds p := hA0
  rw [Try.params3] at hA hval
  obtain ⟨v0, vs0, d0, ds0, p0, q0, hargs, rfl, rfl, h0, r0⟩ := trodAll_cons hA
  obtain ⟨v1, vs1, d1, ds1, p1, q1, rfl, rfl, rfl, h1, r1⟩ := trodAll_cons r0
  obtain ⟨v2, vs2, d2, ds2, p2, q2, rfl, rfl, rfl, h2, r2⟩ := trodAll_cons r1
  obtain ⟨v3, vs3, d3, ds3, p3, q3, rfl, rfl, rfl, h3, r3⟩ := trodAll_cons r2
  obtain ⟨rfl, rfl, rfl⟩ := trodAll_nil r3
  obtain rfl : args = #[v0, v1, v2, v3] := by cases args; simp_all
  obtain ⟨rfl, rfl⟩ := trodVars_none hV
  obtain ⟨a0, rfl, rfl, rfl, w0⟩ := open_string Try.underlying9 (hval 0 9 v0 rfl rfl) h0
  obtain ⟨a1, rfl, rfl, rfl, w1⟩ := open_string Try.underlying9 (hval 1 9 v1 rfl rfl) h1
  obtain ⟨a2, rfl, rfl, rfl, w2⟩ := open_string Try.underlying9 (hval 2 9 v2 rfl rfl) h2
  obtain ⟨a3, rfl, rfl, rfl, w3⟩ := open_string Try.underlying9 (hval 3 9 v3 rfl rfl) h3
  clear hA0 hval0
  simp only [List.append_nil] at hW'
  refine (walk a0 a1 a2 a3 w0 w1 w2 w3 W).mono fun e W' ⟨he, hg⟩ => ?_
  subst he
  exact ⟨_, rfl, Own.post_grows (pa := []) (pv := []) hW' (fun _ _ _ => (trodAll_cons_mk (shut_bool Try.underlying4 _) trodAll_mk0)) (fun sp _ => (trodAll_cons_mk (shut_string Try.underlying9 w0) (trodAll_cons_mk (shut_string Try.underlying9 w1) (trodAll_cons_mk (shut_string Try.underlying9 w2) (trodAll_cons_mk (shut_string Try.underlying9 w3) trodAll_mk0))))) (fun _ _ => rfl)
    hg⟩

theorem over : Rows.gcmTellsRow.holds Try.pinned (OpenSpec.ofChange Rows.gcmTellsSpec) :=
  OpenClaim.holds_of_wide 3 Try.f3 rfl rfl rfl rfl rfl rfl rfl ⟨rfl, rfl, rfl, rfl, rfl⟩ rfl rfl rfl rfl rfl (by kernel_rfl) Try.func3 (by kernel_rfl)
    (of_decide_eq_true (by kernel_rfl)) (by unfold Func.isWrapper; first | (rw [if_pos (by decide +kernel)]; kernel_rfl) | (rw [if_neg (by decide +kernel)]; exact ⟨rfl, rfl⟩))
    (fun os started H enc _ => lifted os started H enc)

theorem proved : Rows.GcmTellsSaid :=
  over
#print axioms proved
end Go.Proofs.Ytmhhekiliojifaa.gcmTells

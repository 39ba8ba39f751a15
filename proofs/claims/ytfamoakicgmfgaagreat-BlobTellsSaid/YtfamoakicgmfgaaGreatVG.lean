/- The program's models of layer 4 are the document's; the document's cipher by contract (a part of PTells, for seats without its row). -/
import Derived.Test.YtfamoakicgmfgaaGreatVC
import Derived.Test.YtfamoakicgmfgaaGreatB8
import Derived.Test.YtfamoakicgmfgaaGreatT1
namespace Go.Proofs.YtfamoakicgmfgaaGreat
open Go.RowKit Go.Own
theorem hf4 (n : Nat) : hfL n 4 = fourL n := by
  show [n / 2 ^ (8 * (4 - 1 - 0)) % 256, n / 2 ^ (8 * (4 - 1 - 1)) % 256, n / 2 ^ (8 * (4 - 1 - 2)) % 256, n / 2 ^ (8 * (4 - 1 - 3)) % 256] = [n / 16777216 % 256, n / 65536 % 256, n / 256 % 256, n % 256]
  simp
theorem hf8 (n : Nat) (h : n < 4294967296) : hfL n 8 = fourL 0 ++ fourL n := by
  show [n / 2 ^ (8 * (8 - 1 - 0)) % 256, n / 2 ^ (8 * (8 - 1 - 1)) % 256, n / 2 ^ (8 * (8 - 1 - 2)) % 256, n / 2 ^ (8 * (8 - 1 - 3)) % 256, n / 2 ^ (8 * (8 - 1 - 4)) % 256, n / 2 ^ (8 * (8 - 1 - 5)) % 256, n / 2 ^ (8 * (8 - 1 - 6)) % 256, n / 2 ^ (8 * (8 - 1 - 7)) % 256] =
    [0, 0, 0, 0, n / 16777216 % 256, n / 65536 % 256, n / 256 % 256, n % 256]
  simp
  omega
theorem lensL_four (a b : Nat) (ha : a < 500000000) (hb : b < 500000000) : lensL a b = fourL 0 ++ fourL (8 * a) ++ fourL 0 ++ fourL (8 * b) := by
  unfold lensL
  rw [hf8 _ (by omega), hf8 _ (by omega)]
  simp
theorem gi_mapx {n : Nat} {f : Nat → Nat} {j : Nat} (h : n ≤ j) : gi ((List.range n).map f) j = 0 := by
  simp [gi, List.getD, h]
theorem tL1_xorL (cs nonce : List Nat) (j : Nat) (p : List Nat) (h : p.length ≤ 16) : tL1 cs nonce j p = Own.xorL p (pressL cs (nonce ++ fourL j)) := by
  apply gi_exte
  · rw [tL1_length _ _ _ _ h, Own.xorL_length]
  · intro i hi
    rw [tL1_length _ _ _ _ h] at hi
    rw [gi_tL1 _ _ _ _ h i hi, hf4]
    unfold Own.xorL
    rw [gi_map16 hi]
/-- The document's cipher. -/
def cipK (k t : List Nat) : List Nat := pressL (cipher k) t
theorem tLn_bodyS (k nonce x : List Nat) : ∀ c, tLn (cipher k) nonce x c = bodyS (cipK k) nonce x c
  | 0 => rfl
  | c + 1 => by
    rw [tLn_succ, bodyS_succ, tLn_bodyS k nonce x c, tL1_xorL _ _ _ _ (by rw [pcL_length]; omega), Nat.add_comm c 2]
    rfl
theorem turnP_bodyL (key nonce text : ByteArray) : turnP key nonce text = bodyL (cipK (bys key)) (bys nonce) (bys text) := by
  rw [turnP_tLn, tLn_bodyS, bodyL, bys_length]
theorem fillL_fill (p : List Nat) : fillL (fillL p) = fillL p := fillL_full (fillL_length p)
theorem hL1_fill (h s p : List Nat) : hL1 h s (fillL p) = hL1 h s p := by unfold hL1; rw [fillL_fill]
theorem hL1_full (h s p : List Nat) (hs : s.length = 16) (hp : p.length = 16) : hL1 h s p = prodL (Own.xorL s p) h := by
  unfold hL1
  rw [fillL_full hp]
  congr 1
  unfold Own.xorL
  rw [hs]
  rfl
theorem hL1_length (h s p : List Nat) : (hL1 h s p).length = 16 := prodL_length _ _
theorem hLn_length (h s x : List Nat) (hs : s.length = 16) : ∀ k, (hLn h s x k).length = 16
  | 0 => hs
  | _ + 1 => hL1_length _ _ _
theorem hashS_hLn (h all : List Nat) : ∀ c, 16 * c ≤ all.length → hashS h all c = hLn h (rep 16) all c
  | 0, _ => rfl
  | c + 1, hc => by
    show prodL (Own.xorL (hashS h all c) ((all.drop (16 * c)).take 16)) h = hL1 h (hLn h (rep 16) all c) (pcL all c)
    rw [hL1_full _ _ _ (hLn_length _ _ _ (rep_length _) _) (by rw [pcL_length]; omega), hashS_hLn h all c (by omega)]
    rfl
theorem hLn_pre (h s x y : List Nat) (kx : Nat) (hx : x.length = 16 * kx) : ∀ k, k ≤ kx → hLn h s (x ++ y) k = hLn h s x k
  | 0, _ => rfl
  | k + 1, hk => by
    show hL1 h (hLn h s (x ++ y) k) (pcL (x ++ y) k) = hL1 h (hLn h s x k) (pcL x k)
    rw [hLn_pre h s x y kx hx k (by omega)]
    congr 1
    unfold pcL
    rw [List.drop_append_of_le_length (by omega), List.take_append_of_le_length (by rw [List.length_drop]; omega)]
theorem hLn_app (h s x y : List Nat) (kx : Nat) (hx : x.length = 16 * kx) : ∀ ky, hLn h s (x ++ y) (kx + ky) = hLn h (hLn h s x kx) y ky
  | 0 => hLn_pre h s x y kx hx kx (Nat.le_refl _)
  | ky + 1 => by
    show hL1 h (hLn h s (x ++ y) (kx + ky)) (pcL (x ++ y) (kx + ky)) = hL1 h (hLn h (hLn h s x kx) y ky) (pcL y ky)
    rw [hLn_app h s x y kx hx ky]
    congr 1
    unfold pcL
    rw [List.drop_append, List.drop_of_length_le (by omega), List.nil_append, hx, show 16 * (kx + ky) - 16 * kx = 16 * ky by omega]
theorem nblk (n : Nat) : n + fillN n = 16 * ((n + 15) / 16) := by unfold fillN; omega
theorem whole_len (x : List Nat) : (wholeL x).length = 16 * ((x.length + 15) / 16) := by rw [wholeL_length, nblk]
theorem gi_pcL (x : List Nat) (k i : Nat) (h : i < 16) : gi (pcL x k) i = gi x (16 * k + i) := by
  unfold pcL
  rw [gi_takel h]
  simp only [gi, List.getD_eq_getElem?_getD, List.getElem?_drop]
theorem gi_out {x : List Nat} {i : Nat} (h : x.length ≤ i) : gi x i = 0 := by simp [gi, List.getD, List.getElem?_eq_none h]
theorem pcL_whole (x : List Nat) (k : Nat) (hk : 16 * k < x.length) : pcL (wholeL x) k = fillL (pcL x k) := by
  have hw := whole_len x
  apply gi_exte
  · rw [pcL_length, fillL_length, hw]; omega
  · intro i hi
    rw [pcL_length] at hi
    rw [gi_pcL _ _ _ (by omega)]
    have hpl := pcL_length x k
    by_cases h1 : 16 * k + i < x.length
    · rw [gi_fill (by rw [hpl]; omega) (by omega), gi_pcL _ _ _ (by omega)]
      unfold wholeL
      rw [gi_appl h1]
    · unfold wholeL fillL
      rw [gi_appr (by omega), rep_gi, gi_appr (by rw [List.length_take, hpl]; omega), rep_gi]
theorem hLn_whole (h s x : List Nat) : ∀ k, k ≤ (x.length + 15) / 16 → hLn h s (wholeL x) k = hLn h s x k
  | 0, _ => rfl
  | k + 1, hk => by
    show hL1 h (hLn h s (wholeL x) k) (pcL (wholeL x) k) = hL1 h (hLn h s x k) (pcL x k)
    rw [hLn_whole h s x k (by omega), pcL_whole x k (by omega), hL1_fill]
theorem hash_eq (h bes b : List Nat) (ha : bes.length < 500000000) (hb : b.length < 500000000) :
    hashS h (hashedL bes b) ((hashedL bes b).length / 16) = hLt h (hLt h (hLt h (rep 16) bes) b) (lensL bes.length b.length) := by
  have e : hashedL bes b = wholeL bes ++ (wholeL b ++ lensL bes.length b.length) := by
    rw [lensL_four _ _ ha hb]; unfold hashedL; simp
  have hll : (lensL bes.length b.length).length = 16 := by unfold lensL; rw [List.length_append, hfL_length, hfL_length]
  have w1 := whole_len bes
  have w2 := whole_len b
  have hn : (hashedL bes b).length / 16 = (bes.length + 15) / 16 + ((b.length + 15) / 16 + 1) := by
    rw [e, List.length_append, List.length_append, w1, w2, hll]; omega
  rw [hashS_hLn _ _ _ (by omega), hn, e, hLn_app _ _ _ _ _ w1, hLn_app _ _ _ _ _ w2, hLn_whole _ _ _ _ (Nat.le_refl _), hLn_whole _ _ _ _ (Nat.le_refl _)]
  unfold hLt
  rw [hll]
theorem macP_tagG (key nonce bes body : ByteArray) (ha : bes.size < 500000000) (hb : body.size < 500000000) : macP key nonce bes body = tagG (cipK (bys key)) (bys nonce) (bys bes) (bys body) := by
  rw [macP_hLt]
  unfold tagG
  rw [hash_eq _ _ _ (by rw [bys_length]; exact ha) (by rw [bys_length]; exact hb), bys_length, bys_length]
  unfold Own.xorL cipK
  have hl : (hLt (pressL (cipher (bys key)) (rep 16)) (hLt (pressL (cipher (bys key)) (rep 16)) (hLt (pressL (cipher (bys key)) (rep 16)) (rep 16) (bys bes)) (bys body)) (lensL bes.size body.size)).length = 16 := by
    unfold hLt
    exact hLn_length _ _ _ (hLn_length _ _ _ (hLn_length _ _ _ (rep_length _) _) _) _
  rw [hl, hf4]
  rfl
/-! ### The document's cipher, by contract -/
theorem gi_take_ofx {S s : List Nat} {n j : Nat} (h : S.take n = s) (hj : j < n) : gi S j = gi s j := by
  rw [← h, gi_takel hj]
theorem cipher_wordx (key : List Nat) (j : Nat) : gi (cipher key) (256 + j) = gi (words cs0 key) j := by
  have hl := boxes_length
  unfold cipher
  rw [gi_appr (by omega), hl, Nat.add_sub_cancel_left]
theorem cipher_boxx (key : List Nat) (b : Nat) (h : b < 256) : gi (cipher key) b = gi boxes b := by
  unfold cipher
  rw [gi_appl (by rw [boxes_length]; exact h)]
def RdyK (k : List Nat) (x y : Value) (W : World) : Prop :=
  ∃ vb CV bb CB V B tV tB fV fB, x = .slice (some ⟨vb, 0, none⟩) 240 CV ∧ y = .slice (some ⟨bb, 0, none⟩) 256 CB ∧ blk W vb = some (.cells (cv .u8 V) tV fV) ∧ blk W bb = some (.cells (cv .u8 B) tB fB) ∧
    V.take 240 = words cs0 k ∧ 240 ≤ V.length ∧ B.take 256 = boxes ∧ 256 ≤ B.length ∧ B8 k
theorem cipKR : Cip cipK RdyK where
  len _ _ := pressL_len _ _
  b8 _ _ := addL_B8 _ _ _
  keep := by
    rintro k x y w w' ⟨vb, CV, bb, CB, V, B, tV, tB, fV, fB, h1, h2, h3, h4, h5⟩ hg
    exact ⟨vb, CV, bb, CB, V, B, tV, tB, fV, fB, h1, h2, hg.blk h3, hg.blk h4, h5⟩
  new := fun key W hk => (refNew_ok key hk W).mono (by
    rintro e w' ⟨v, b, l, d, rfl, rfl, hv, hb⟩
    obtain ⟨i, V, tV, fV, rfl, hi, _, htV, hleV⟩ := hv
    obtain ⟨j, B, tB, fB, rfl, hj, _, htB, hleB⟩ := hb
    rw [words_length cs0 (bys key)] at htV hleV ⊢
    rw [boxes_length] at htB hleB ⊢
    exact ⟨_, _, _, _, _, _, rfl, Grows.of _ _ _, _, _, _, _, V, B, tV, tB, fV, fB, rfl, rfl, by rw [blk_at]; exact hi, by rw [blk_at]; exact hj, htV, hleV, htB, hleB, B8.bys key⟩)
  bad := fun key W hk => refNew_bad key hk W
  press := by
    rintro k x y W t ⟨vb, CV, bb, CB, V, B, tV, tB, fV, fB, rfl, rfl, h3, h4, h5, h6, h7, h8, h9⟩ ht
    have := refPress_ok t ht W vb bb CV CB V B tV tB fV fB h3 h4 h6 h8 (fun x hx => gi_take_ofx h7 hx)
    rw [out_press (cs := cipher k) (cipher_boxx _) (fun q hq => by rw [cipher_wordx]; exact gi_take_ofx h5 hq) (cipher_B8 _ h9)] at this
    exact this
end Go.Proofs.YtfamoakicgmfgaaGreat

/- What the hash and the turning of a text come to, over lists; the examples' blocks by the kernel. No condition. | GcmField's own walk. No condition. | GcmStream's own walk. No condition. | What is sealed and turned twice is the text; two besides of layer 5's example have unlike tags. -/
import Derived.Test.YtfamoakicgmfgaaV7
import Derived.Test.YtfamoakicgmfgaaM1
import Derived.Laws.Concat
namespace Go.Proofs.Ytfamoakicgmfgaa
open Go.RowKit Go.Own
/-- The piece of number k. -/
def pcL (x : List Nat) (k : Nat) : List Nat := (x.drop (16 * k)).take 16
theorem pcB_bys {t : ByteArray} {k : Nat} (h : 16 * k < t.size) : bys (pcB t k).1 = pcL (bys t) k := by
  rw [pcB_val h, bys_extract]
  unfold pcL
  have hl : ((bys t).drop (16 * k)).length = t.size - 16 * k := by rw [List.length_drop, bys_length]
  by_cases h2 : 16 * k + 16 ≤ t.size
  · rw [Nat.min_eq_left h2, Nat.add_sub_cancel_left]
  · rw [Nat.min_eq_right (by omega), List.take_of_length_le (by omega), List.take_of_length_le (by omega)]
def hL1 (h s p : List Nat) : List Nat := prodL ((List.range 16).map (xorF s (fillL p))) h
/-- The hash of a text's blocks, k of them. -/
def hLn (h s x : List Nat) : Nat → List Nat
  | 0 => s
  | k + 1 => hL1 h (hLn h s x k) (pcL x k)
theorem hfold_hLn (h s : List Nat) (t : ByteArray) : ∀ k, 16 * k < t.size + 16 → hfold h s (pcsB t k) = hLn h s (bys t) k
  | 0, _ => by simp [pcsB, hfold, hLn]
  | k + 1, hk => by
    rw [pcsB_succ, hfold_snoc, hfold_hLn h s t k (by omega), hstep_def, pcB_bys (by omega)]
    rfl
def hLt (h s x : List Nat) : List Nat := hLn h s x ((x.length + 15) / 16)
theorem htext_hLt (h s : List Nat) (t : ByteArray) : htext h s t = hLt h s (bys t) := by
  unfold htext hLt
  rw [hfold_hLn h s t _ (by omega), bys_length]
/-- A piece turned. -/
def tL1 (cs nonce : List Nat) (j : Nat) (p : List Nat) : List Nat := ((List.range 16).map (xorF (fillL p) (pressL cs (nonce ++ hfL j 4)))).take p.length
def tLn (cs nonce x : List Nat) (k : Nat) : List Nat := (List.range k).flatMap fun k => tL1 cs nonce (k + 2) (pcL x k)
theorem tLn_succ (cs nonce x : List Nat) (k : Nat) : tLn cs nonce x (k + 1) = tLn cs nonce x k ++ tL1 cs nonce (k + 2) (pcL x k) := by simp [tLn, List.range_succ]
theorem tfold_tLn (cs nonce : List Nat) (t : ByteArray) : ∀ k, 16 * k < t.size + 16 → (tfold cs nonce 1 (pcsB t k)).1 = tLn cs nonce (bys t) k
  | 0, _ => rfl
  | k + 1, hk => by
    have hc := tfold_count cs nonce 1 (pcsB t k)
    rw [pcsB_length] at hc
    rw [pcsB_succ, tfold_snoc, tLn_succ, ← tfold_tLn cs nonce t k (by omega)]
    unfold tstep tL1
    simp only
    rw [hc, pcB_bys (by omega), show 1 + k + 1 = k + 2 by omega]
    congr 2
    rw [← pcB_bys (by omega), bys_length]
theorem turnP_tLn (key nonce text : ByteArray) : turnP key nonce text = tLn (cipher (bys key)) (bys nonce) (bys text) ((text.size + 15) / 16) := tfold_tLn _ _ _ _ (by omega)
theorem macP_hLt (key nonce bes body : ByteArray) : macP key nonce bes body = (List.range 16).map (xorF (hLt (pressL (cipher (bys key)) (rep 16)) (hLt (pressL (cipher (bys key)) (rep 16)) (hLt (pressL (cipher (bys key)) (rep 16)) (rep 16) (bys bes)) (bys body)) (lensL bes.size body.size)) (pressL (cipher (bys key)) (bys nonce ++ hfL 1 4))) := by
  unfold macP tagP maskP
  rw [htext_hLt, htext_hLt, htext_hLt]
  have : bys (mkS (lensL bes.size body.size)) = lensL bes.size body.size := bys_mkS _ (by unfold lensL; exact (hfL_B8 _ _).append (hfL_B8 _ _))
  rw [this]
/-! ### The examples' blocks -/
def wLit : List Nat := [0, 0, 0, 0, 0, 0, 0, 0, 0, 0, 0, 0, 0, 0, 0, 0, 0, 0, 0, 0, 0, 0, 0, 0, 0, 0, 0, 0, 0, 0, 0, 0, 98, 99, 99, 99, 98, 99, 99, 99, 98, 99, 99, 99, 98, 99, 99, 99, 170, 251, 251, 251, 170, 251, 251, 251, 170, 251, 251, 251, 170, 251, 251, 251, 111, 108, 108, 207, 13, 15, 15, 172, 111, 108, 108, 207, 13, 15, 15, 172, 125, 141, 141, 106, 215, 118, 118, 145, 125, 141, 141, 106, 215, 118, 118, 145, 83, 84, 237, 193, 94, 91, 226, 109, 49, 55, 142, 162, 60, 56, 129, 14, 150, 138, 129, 193, 65, 252, 247, 80, 60, 113, 122, 58, 235, 7, 12, 171, 158, 170, 143, 40, 192, 241, 109, 69, 241, 198, 227, 231, 205, 254, 98, 233, 43, 49, 43, 223, 106, 205, 220, 143, 86, 188, 166, 181, 189, 187, 170, 30, 100, 6, 253, 82, 164, 247, 144, 23, 85, 49, 115, 240, 152, 207, 17, 25, 109, 187, 169, 11, 7, 118, 117, 132, 81, 202, 211, 49, 236, 113, 121, 47, 231, 176, 232, 156, 67, 71, 120, 139, 22, 118, 11, 123, 142, 185, 26, 98, 116, 237, 11, 161, 115, 155, 126, 37, 34, 81, 173, 20, 206, 32, 212, 59, 16, 248, 10, 23, 83, 191, 114, 156, 69, 201, 121, 231, 203, 112, 99, 133]
def hLit : List Nat := [220, 149, 192, 120, 162, 64, 137, 137, 173, 72, 162, 20, 146, 132, 32, 135]
def k1Lit : List Nat := [83, 15, 138, 251, 199, 69, 54, 185, 169, 99, 180, 241, 196, 203, 115, 139]
def k2Lit : List Nat := [206, 167, 64, 61, 77, 96, 107, 110, 7, 78, 197, 211, 186, 243, 157, 24]
def p1Lit : List Nat := [253, 106, 183, 88, 110, 85, 109, 186, 6, 214, 156, 254, 98, 35, 178, 98]
def p2Lit : List Nat := [131, 222, 66, 92, 94, 220, 93, 73, 143, 56, 44, 68, 16, 65, 202, 146]
def q1Lit : List Nat := [194, 148, 116, 42, 231, 220, 127, 15, 18, 139, 231, 236, 182, 155, 222, 122]
def q2Lit : List Nat := [54, 95, 127, 129, 71, 15, 219, 223, 94, 207, 55, 24, 163, 245, 112, 249]
def q3Lit : List Nat := [57, 57, 169, 160, 132, 33, 17, 253, 152, 102, 149, 221, 112, 98, 219, 117]
theorem words_lit : words (boxLit ++ rep 240) (rep 32) = wLit := by decide +kernel
theorem h_lit : pressL (boxLit ++ wLit) (rep 16) = hLit := by decide +kernel
theorem k1_lit : pressL (boxLit ++ wLit) (rep 12 ++ hfL 1 4) = k1Lit := by decide +kernel
theorem k2_lit : pressL (boxLit ++ wLit) (rep 12 ++ hfL 2 4) = k2Lit := by decide +kernel
theorem cipher_lit : cipher (rep 32) = boxLit ++ wLit := by
  unfold cipher cs0
  rw [boxes_eq, words_lit]
theorem prod_lit {x y z : List Nat} (hz : z.length = 16) (hz8 : B8 z) (h : toN z = gmul (toN x) (toN y)) : prodL x y = z :=
  toN_inj (prodL_B8 _ _) hz8 (prodL_length _ _) hz (by rw [prodL_gmul, h])
theorem b8_of {z : List Nat} (h : (z.all fun n => decide (n < 256)) = true) : B8 z := fun n hn => of_decide_eq_true (List.all_eq_true.1 h n hn)
theorem pr0 : hL1 hLit (rep 16) (rep 16) = rep 16 := prod_lit rfl (B8.rep _) (by decide +kernel)
theorem pr1 : hL1 hLit (rep 16) k2Lit = p1Lit := prod_lit rfl (b8_of (by decide)) (by decide +kernel)
theorem pr2 : hL1 hLit p1Lit (lensL 0 16) = p2Lit := prod_lit rfl (b8_of (by decide)) (by decide +kernel)
theorem pr3 : hL1 hLit (rep 16) [120] = q1Lit := prod_lit rfl (b8_of (by decide)) (by decide +kernel)
theorem pr4 : hL1 hLit q1Lit k2Lit = q2Lit := prod_lit rfl (b8_of (by decide)) (by decide +kernel)
theorem pr5 : hL1 hLit q2Lit (lensL 1 16) = q3Lit := prod_lit rfl (b8_of (by decide)) (by decide +kernel)
end Go.Proofs.Ytfamoakicgmfgaa
namespace Go.Own
open Go.RowKit
theorem xbB_xor {x y : List Nat} (hx : B8 x) (hy : B8 y) (n : Nat) (hn : n = 16) (i : Nat) (hi : i < 128) : xbB ((List.range n).map fun k => xor8 (gi x k) (gi y k)) i = (xbB x i ^^ xbB y i) := by
  subst hn
  unfold xbB
  have e : gi ((List.range 16).map fun k => xor8 (gi x k) (gi y k)) (i / 8) = xor8 (gi x (i / 8)) (gi y (i / 8)) := by
    have h16 : i / 8 < 16 := by omega
    simp [gi, List.getD, h16]
  rw [e]
  unfold xor8
  have h1 := hx.gi (i / 8)
  have h2 := hy.gi (i / 8)
  rw [Nat.mod_eq_of_lt (Nat.xor_lt_two_pow (n := 8) h1 h2), Nat.testBit_xor]
theorem toN_xor {x y : List Nat} (hx : B8 x) (hy : B8 y) : toN ((List.range 16).map fun k => xor8 (gi x k) (gi y k)) = toN x ^^^ toN y := by
  apply Nat.eq_of_testBit_eq
  intro i
  by_cases hi : i < 128
  · rw [toN_bit _ _ hi, Nat.testBit_xor, toN_bit _ _ hi, toN_bit _ _ hi, xbB_xor hx hy 16 rfl i hi]
  · have hz : ∀ a, a < 2 ^ 128 → a.testBit i = false := fun a ha => Nat.testBit_lt_two_pow (Nat.lt_of_lt_of_le ha (Nat.pow_le_pow_right (by decide) (by omega)))
    rw [hz _ (toN_lt _), Nat.testBit_xor, hz _ (toN_lt _), hz _ (toN_lt _)]; rfl
theorem prodL_comm (x y : List Nat) : prodL x y = prodL y x :=
  toN_inj (prodL_B8 _ _) (prodL_B8 _ _) (prodL_length _ _) (prodL_length _ _) (by rw [prodL_gmul, prodL_gmul, gmul_comm (toN_lt _) (toN_lt _)])
theorem prodL_assoc (x y z : List Nat) : prodL (prodL x y) z = prodL x (prodL y z) :=
  toN_inj (prodL_B8 _ _) (prodL_B8 _ _) (prodL_length _ _) (prodL_length _ _) (by rw [prodL_gmul, prodL_gmul, prodL_gmul, prodL_gmul, gmul_assoc (toN_lt _) (toN_lt _)])
theorem prodL_xor (x y z : List Nat) (hy : B8 y) (hz : B8 z) : prodL x ((List.range 16).map fun k => xor8 (gi y k) (gi z k)) = (List.range 16).map fun k => xor8 (gi (prodL x y) k) (gi (prodL x z) k) := by
  refine toN_inj (prodL_B8 _ _) (fun n hn => ?_) (prodL_length _ _) (by simp) ?_
  · obtain ⟨k, _, rfl⟩ := List.mem_map.1 hn
    exact Nat.mod_lt _ (by decide)
  · rw [prodL_gmul, toN_xor hy hz, toN_xor (prodL_B8 _ _) (prodL_B8 _ _), prodL_gmul, prodL_gmul]
    exact (gmul_lin_right (toN x)).xor _ _
theorem toN_one : toN (128 :: rep 15) = 1 := by decide +kernel
theorem prodL_one {x : List Nat} (hx : B8 x) (hl : x.length = 16) : prodL x (128 :: rep 15) = x :=
  toN_inj (prodL_B8 _ _) hx (prodL_length _ _) hl (by rw [prodL_gmul, toN_one, gmul_one (toN_lt _)])
end Go.Own
namespace Go.Proofs.Ytfamoakicgmfgaa
open Go.RowKit Go.Own
attribute [local go_sem] z5 ag5 cs5 sz5 isa5 ixSe
attribute [-go_sem] run_string_add_if
end Go.Proofs.Ytfamoakicgmfgaa
namespace Go.Proofs.Ytfamoakicgmfgaa
open Go.RowKit Go.Own
theorem wd0 {f : FuncId} {args : Array Value} {W : World} {v : Value} (h : Calls Try.prog f args W fun e w' => e = .returned v ∧ Below W.heap.size W w') : Calls Try.prog f args (Wd W [] 0) fun e w' => e = .returned v ∧ Below W.heap.size W w' := by rwa [Wd_nil]
theorem same_le {w W w' : World} (h : Below w.heap.size w W) (k : Below W.heap.size W w') : Below w.heap.size w w' := h.trans (k.mono h.size)
attribute [local go_sem] z5 ag5 cs5 sz5 isa5 ixSe
attribute [-go_sem] run_string_add_if
theorem tL1_length (cs nonce : List Nat) (j : Nat) (p : List Nat) (h : p.length ≤ 16) : (tL1 cs nonce j p).length = p.length := by unfold tL1; simp; omega
theorem gi_map16 {n : Nat} {f : Nat → Nat} {j : Nat} (h : j < n) : gi ((List.range n).map f) j = f j := by simp [gi, List.getD, h]
theorem gi_takel {s : List Nat} {n i : Nat} (h : i < n) : gi (s.take n) i = gi s i := by simp [gi, List.getD, h]
theorem gi_appl {s t : List Nat} {i : Nat} (h : i < s.length) : gi (s ++ t) i = gi s i := by simp [gi, List.getD, List.getElem?_append_left h]
theorem gi_appr {s t : List Nat} {i : Nat} (h : s.length ≤ i) : gi (s ++ t) i = gi t (i - s.length) := by simp [gi, List.getD, List.getElem?_append_right h]
theorem gi_fill {p : List Nat} {i : Nat} (h : i < p.length) (h16 : i < 16) : gi (fillL p) i = gi p i := by
  unfold fillL
  rw [gi_appl (by rw [List.length_take]; omega), gi_takel h16]
theorem gi_tL1 (cs nonce : List Nat) (j : Nat) (p : List Nat) (h16 : p.length ≤ 16) (i : Nat) (h : i < p.length) : gi (tL1 cs nonce j p) i = xor8 (gi p i) (gi (pressL cs (nonce ++ hfL j 4)) i) := by
  unfold tL1
  rw [gi_takel h, gi_map16 (by omega)]
  unfold xorF
  rw [gi_fill h (by omega)]
theorem pcL_length (x : List Nat) (k : Nat) : (pcL x k).length = min 16 (x.length - 16 * k) := by unfold pcL; simp
theorem tLn_length (cs nonce x : List Nat) : ∀ k, (tLn cs nonce x k).length = min (16 * k) x.length
  | 0 => by simp [tLn]
  | k + 1 => by
    rw [tLn_succ, List.length_append, tLn_length cs nonce x k, tL1_length _ _ _ _ (by rw [pcL_length]; omega), pcL_length]
    omega
/-- The byte i of what is pressed of the counter. -/
def ksF (cs nonce : List Nat) (i : Nat) : Nat := gi (pressL cs (nonce ++ hfL (i / 16 + 2) 4)) (i % 16)
theorem gi_tLn (cs nonce x : List Nat) : ∀ k i, i < 16 * k → i < x.length → gi (tLn cs nonce x k) i = xor8 (gi x i) (ksF cs nonce i)
  | 0, i, h, _ => by omega
  | k + 1, i, h, hx => by
    rw [tLn_succ]
    have hl := tLn_length cs nonce x k
    by_cases h1 : i < 16 * k
    · rw [gi_appl (by rw [hl]; omega)]
      exact gi_tLn cs nonce x k i h1 hx
    · rw [gi_appr (by rw [hl]; omega), hl, show min (16 * k) x.length = 16 * k by omega, gi_tL1 _ _ _ _ (by rw [pcL_length]; omega) _ (by rw [pcL_length]; omega)]
      have e : gi (pcL x k) (i - 16 * k) = gi x i := by
        unfold pcL
        rw [gi_takel (by omega)]
        simp only [gi, List.getD_eq_getElem?_getD, List.getElem?_drop]
        congr 2; omega
      rw [e]
      unfold ksF
      rw [show i / 16 + 2 = k + 2 by omega, show i % 16 = i - 16 * k by omega]
theorem turnP_length (key nonce text : ByteArray) : (turnP key nonce text).length = text.size := by
  rw [turnP_tLn, tLn_length, bys_length]; omega
theorem gi_turnP (key nonce text : ByteArray) (i : Nat) (h : i < text.size) : gi (turnP key nonce text) i = xor8 (gi (bys text) i) (ksF (cipher (bys key)) (bys nonce) i) := by
  rw [turnP_tLn]
  exact gi_tLn _ _ _ _ _ (by omega) (by rw [bys_length]; exact h)
theorem B8_xorm (n : Nat) (x y : List Nat) : B8 ((List.range n).map (xorF x y)) := fun z hz => by
  obtain ⟨k, _, rfl⟩ := List.mem_map.1 hz
  exact xor8_lt _ _
theorem turnP_B8 (key nonce text : ByteArray) : B8 (turnP key nonce text) := by
  rw [turnP_tLn]
  intro z hz
  unfold tLn at hz
  obtain ⟨k, _, hz⟩ := List.mem_flatMap.1 hz
  exact B8_xorm 16 _ _ z (List.mem_of_mem_take hz)
theorem macP_B8 (key nonce bes body : ByteArray) : B8 (macP key nonce bes body) := B8_xorm 16 _ _
theorem sealed_any (key nonce bes text S : ByteArray) (hk : key.size = 32) (hn : nonce.size = 12) (hb : bes.size ≤ 65536) (ht : text.size ≤ 65536) (hS : mkS (turnP key nonce text ++ macP key nonce bes (mkS (turnP key nonce text))) = S) (W : World) :
    Calls Try.prog 13 #[.string key, .string nonce, .string bes, .string text] (Wd W [] 0) fun e w' => e = .returned (.tuple #[.string S, .int .i64 0]) ∧ Below W.heap.size W w' := by
  have := pseal_ok key nonce bes text hk hn hb ht (by rw [turnP_length]; exact ht) W
  rw [hS] at this
  exact wd0 this
theorem xor8_cancelv {a b k : Nat} (ha : a < 256) (hb : b < 256) (hk : k < 256) : xor8 (xor8 a k) (xor8 b k) = xor8 a b := by
  unfold xor8
  rw [Nat.mod_eq_of_lt (Nat.xor_lt_two_pow (n := 8) ha hk), Nat.mod_eq_of_lt (Nat.xor_lt_two_pow (n := 8) hb hk)]
  congr 1
  rw [Nat.xor_assoc, ← Nat.xor_assoc k b k, Nat.xor_comm k b, Nat.xor_assoc b k k, Nat.xor_self, Nat.xor_zero]
theorem ksF_lt (cs nonce : List Nat) (i : Nat) : ksF cs nonce i < 256 := by
  unfold ksF
  have : B8 (pressL cs (nonce ++ hfL (i / 16 + 2) 4)) := addL_B8 _ _ _
  exact this.gi _
end Go.Proofs.Ytfamoakicgmfgaa
namespace Go.Proofs.Ytfamoakicgmfgaa
open Go.RowKit Go.Own
/-- A text that is turned twice is itself. -/
theorem turn_twice (key nonce text : ByteArray) : turnP key nonce (mkS (turnP key nonce text)) = bys text := by
  have hl := turnP_length key nonce text
  have hs : (mkS (turnP key nonce text)).size = text.size := by rw [mkS_size, hl]
  apply gi_exte
  · rw [turnP_length, hs, bys_length]
  · intro i hi
    rw [turnP_length, hs] at hi
    rw [gi_turnP _ _ _ _ (by omega), bys_mkS _ (turnP_B8 _ _ _), gi_turnP _ _ _ _ hi]
    have h1 : gi (bys text) i < 256 := (B8.bys text).gi i
    have h2 := ksF_lt (cipher (bys key)) (bys nonce) i
    unfold xor8
    have h3 : (gi (bys text) i ^^^ ksF (cipher (bys key)) (bys nonce) i) < 2 ^ 8 := Nat.xor_lt_two_pow h1 h2
    rw [Nat.mod_eq_of_lt (show gi (bys text) i ^^^ ksF (cipher (bys key)) (bys nonce) i < 256 from h3), Nat.xor_assoc, Nat.xor_self, Nat.xor_zero]
    exact Nat.mod_eq_of_lt h1
theorem hL1_len (h s p : List Nat) : (hL1 h s p).length = 16 := prodL_length _ _
theorem hL1_B8 (h s p : List Nat) : B8 (hL1 h s p) := prodL_B8 _ _
theorem fillL_B8 {p : List Nat} (h : B8 p) : B8 (fillL p) := by
  unfold fillL
  exact B8.append (fun n hn => h n (List.mem_of_mem_take hn)) (B8.rep _)
theorem toN_hL1 {h s p : List Nat} (hs : B8 s) (hp : B8 p) : toN (hL1 h s p) = gmul (toN s ^^^ toN (fillL p)) (toN h) := by
  unfold hL1
  have e : xorF s (fillL p) = fun k => xor8 (gi s k) (gi (fillL p) k) := rfl
  rw [prodL_gmul, e, toN_xor hs (fillL_B8 hp)]
/-- The sum of two texts' hashes hangs on their besides alone. -/
theorem hash_diff {h s t a a' b1 b2 l l' : List Nat} (hs : B8 s) (ht : B8 t) (ha : B8 a) (ha' : B8 a') (h1 : B8 b1) (h2 : B8 b2) (hl : B8 l) (hl' : B8 l') :
    toN (hL1 h (hL1 h (hL1 h (hL1 h s a) b1) b2) l) ^^^ toN (hL1 h (hL1 h (hL1 h (hL1 h t a') b1) b2) l') =
      gmul (gmul (gmul (gmul ((toN s ^^^ toN (fillL a)) ^^^ (toN t ^^^ toN (fillL a'))) (toN h)) (toN h)) (toN h) ^^^ (toN (fillL l) ^^^ toN (fillL l'))) (toN h) := by
  have hx := fun (x y z : Nat) => (gmul_lin_left z).xor x y
  have c4 : ∀ x y z : Nat, (x ^^^ z) ^^^ (y ^^^ z) = x ^^^ y := fun x y z => by
    rw [Nat.xor_comm y z, Nat.xor_assoc, ← Nat.xor_assoc z z y, Nat.xor_self, Nat.zero_xor]
  have c5 : ∀ x y z u : Nat, (x ^^^ z) ^^^ (y ^^^ u) = (x ^^^ y) ^^^ (z ^^^ u) := fun x y z u => by
    rw [Nat.xor_assoc, Nat.xor_assoc, ← Nat.xor_assoc z y u, Nat.xor_comm z y, Nat.xor_assoc]
  rw [toN_hL1 (hL1_B8 _ _ _) hl, toN_hL1 (hL1_B8 _ _ _) hl', ← hx, toN_hL1 (hL1_B8 _ _ _) h2, toN_hL1 (hL1_B8 _ _ _) h2, c5, ← hx, c4, toN_hL1 (hL1_B8 _ _ _) h1, toN_hL1 (hL1_B8 _ _ _) h1, ← hx, c4, toN_hL1 hs ha, toN_hL1 ht ha', ← hx]
theorem hLt_two (h s x : List Nat) (hx : x.length = 32) : hLt h s x = hL1 h (hL1 h s (pcL x 0)) (pcL x 1) := by
  unfold hLt
  rw [hx]
  rfl
theorem hLt_short (h s x : List Nat) (h1 : 0 < x.length) (h2 : x.length ≤ 16) : hLt h s x = hL1 h s x := by
  unfold hLt
  rw [show (x.length + 15) / 16 = 1 by omega]
  show hL1 h (hLn h s x 0) (pcL x 0) = _
  have e : pcL x 0 = x := by unfold pcL; rw [Nat.mul_zero, List.drop_zero, List.take_of_length_le h2]
  rw [e]; rfl
theorem pcL_B8 {x : List Nat} (h : B8 x) (k : Nat) : B8 (pcL x k) := fun n hn => h n (List.mem_of_mem_drop (List.mem_of_mem_take hn))
/-! ### The key of 32 bytes from 9 on -/
def k9 : List Nat := (List.range 32).map (· + 9)
def w9 : List Nat := [9, 10, 11, 12, 13, 14, 15, 16, 17, 18, 19, 20, 21, 22, 23, 24, 25, 26, 27, 28, 29, 30, 31, 32, 33, 34, 35, 36, 37, 38, 39, 40, 255, 198, 63, 51, 242, 200, 48, 35, 227, 218, 35, 55, 246, 204, 52, 47, 91, 81, 3, 9, 70, 79, 28, 41, 103, 109, 63, 13, 66, 75, 24, 37, 78, 107, 0, 31, 188, 163, 48, 60, 95, 121, 19, 11, 169, 181, 39, 36, 136, 132, 207, 63, 206, 203, 211, 22, 169, 166, 236, 27, 235, 237, 244, 62, 31, 212, 178, 246, 163, 119, 130, 202, 252, 14, 145, 193, 85, 187, 182, 229, 116, 110, 129, 230, 186, 165, 82, 240, 19, 3, 190, 235, 248, 238, 74, 213, 63, 2, 177, 183, 156, 117, 51, 125, 96, 123, 162, 188, 53, 192, 20, 89, 226, 212, 123, 45, 88, 113, 41, 221, 75, 114, 151, 54, 179, 156, 221, 227, 241, 195, 160, 218, 109, 182, 147, 167, 13, 205, 49, 27, 56, 13, 37, 66, 229, 3, 68, 1, 189, 114, 109, 220, 246, 0, 250, 234, 69, 156, 39, 9, 15, 15, 161, 180, 98, 185, 50, 19, 111, 116, 3, 8, 87, 121, 38, 74, 190, 181, 179, 215, 3, 199, 222, 11, 245, 199, 36, 225, 176, 91, 3, 232, 118, 116, 58, 83, 20, 205, 8, 64, 123, 185, 11, 72, 44, 192, 45, 2]
def h9 : List Nat := [84, 249, 183, 243, 34, 90, 104, 147, 107, 105, 15, 19, 45, 47, 86, 246]
theorem w9_lit : words (boxLit ++ rep 240) k9 = w9 := by decide +kernel
theorem h9_lit : pressL (boxLit ++ w9) (rep 16) = h9 := by decide +kernel
theorem cipher9 : cipher k9 = boxLit ++ w9 := by
  unfold cipher cs0
  rw [boxes_eq, w9_lit]
theorem diff9 : gmul (gmul (gmul (gmul ((toN (rep 16) ^^^ toN (fillL [110, 97, 109, 101])) ^^^ (toN (rep 16) ^^^ toN (fillL [111, 116, 104, 101, 114]))) (toN h9)) (toN h9)) (toN h9) ^^^ (toN (fillL (lensL 4 32)) ^^^ toN (fillL (lensL 5 32)))) (toN h9) ≠ 0 := by decide +kernel
theorem lensL_B8 (a b : Nat) : B8 (lensL a b) := by unfold lensL; exact (hfL_B8 _ _).append (hfL_B8 _ _)
/-- Under that key a body of 32 bytes has another tag beside 'name' than beside 'other'. -/
theorem mac_other (U n m o b : ByteArray) (hU : bys U = k9) (hm : bys m = [110, 97, 109, 101]) (ho : bys o = [111, 116, 104, 101, 114]) (hb : b.size = 32) : macP U n m b ≠ macP U n o b := by
  intro h
  have hms : m.size = 4 := by rw [← bys_length, hm]; rfl
  have hos : o.size = 5 := by rw [← bys_length, ho]; rfl
  have hbl : (bys b).length = 32 := by rw [bys_length, hb]
  have hll : ∀ x y, (lensL x y).length = 16 := fun x y => by unfold lensL; rw [List.length_append, hfL_length, hfL_length]
  rw [macP_hLt, macP_hLt, hU, cipher9, h9_lit, hm, ho, hms, hos, hb, hLt_two _ _ _ hbl, hLt_two _ _ _ hbl, hLt_short h9 (rep 16) [110, 97, 109, 101] (by decide) (by decide), hLt_short h9 (rep 16) [111, 116, 104, 101, 114] (by decide) (by decide),
    hLt_short h9 _ (lensL 4 32) (by rw [hll]; decide) (by rw [hll]; decide), hLt_short h9 _ (lensL 5 32) (by rw [hll]; decide) (by rw [hll]; decide)] at h
  have hB := B8.bys b
  have key := hash_diff (h := h9) (s := rep 16) (t := rep 16) (a := [110, 97, 109, 101]) (a' := [111, 116, 104, 101, 114]) (b1 := pcL (bys b) 0) (b2 := pcL (bys b) 1) (l := lensL 4 32) (l' := lensL 5 32)
    (B8.rep _) (B8.rep _) (b8_of (by decide)) (b8_of (by decide)) (pcL_B8 hB 0) (pcL_B8 hB 1) (lensL_B8 _ _) (lensL_B8 _ _)
  have hx8 := hL1_B8 h9 (hL1 h9 (hL1 h9 (hL1 h9 (rep 16) [110, 97, 109, 101]) (pcL (bys b) 0)) (pcL (bys b) 1)) (lensL 4 32)
  have hy8 := hL1_B8 h9 (hL1 h9 (hL1 h9 (hL1 h9 (rep 16) [111, 116, 104, 101, 114]) (pcL (bys b) 0)) (pcL (bys b) 1)) (lensL 5 32)
  have hxl := hL1_len h9 (hL1 h9 (hL1 h9 (hL1 h9 (rep 16) [110, 97, 109, 101]) (pcL (bys b) 0)) (pcL (bys b) 1)) (lensL 4 32)
  have hyl := hL1_len h9 (hL1 h9 (hL1 h9 (hL1 h9 (rep 16) [111, 116, 104, 101, 114]) (pcL (bys b) 0)) (pcL (bys b) 1)) (lensL 5 32)
  have hM8 : B8 (pressL (boxLit ++ w9) (bys n ++ hfL 1 4)) := addL_B8 _ _ _
  have hD := diff9
  rw [← key] at hD
  clear key
  generalize hL1 h9 (hL1 h9 (hL1 h9 (hL1 h9 (rep 16) [110, 97, 109, 101]) (pcL (bys b) 0)) (pcL (bys b) 1)) (lensL 4 32) = X at *
  generalize hL1 h9 (hL1 h9 (hL1 h9 (hL1 h9 (rep 16) [111, 116, 104, 101, 114]) (pcL (bys b) 0)) (pcL (bys b) 1)) (lensL 5 32) = Y at *
  generalize pressL (boxLit ++ w9) (bys n ++ hfL 1 4) = M at *
  have e : X = Y := by
    apply gi_exte (by rw [hxl, hyl])
    intro i hi
    have h2 := congrArg (fun l => gi l i) h
    simp only [gi_map16 (show i < 16 by omega)] at h2
    have h3 : xor8 (gi X i) (gi M i) = xor8 (gi Y i) (gi M i) := h2
    have a1 : gi X i < 2 ^ 8 := hx8.gi i
    have a2 : gi Y i < 2 ^ 8 := hy8.gi i
    have a3 : gi M i < 2 ^ 8 := hM8.gi i
    unfold xor8 at h3
    have b1 : gi X i ^^^ gi M i < 256 := Nat.xor_lt_two_pow a1 a3
    have b2 : gi Y i ^^^ gi M i < 256 := Nat.xor_lt_two_pow a2 a3
    rw [Nat.mod_eq_of_lt b1, Nat.mod_eq_of_lt b2] at h3
    have h4 := congrArg (· ^^^ gi M i) h3
    simpa only [Nat.xor_assoc, Nat.xor_self, Nat.xor_zero] using h4
  rw [e, Nat.xor_self] at hD
  exact hD rfl
end Go.Proofs.Ytfamoakicgmfgaa

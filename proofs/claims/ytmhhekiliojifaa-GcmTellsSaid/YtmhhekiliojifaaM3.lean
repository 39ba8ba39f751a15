/- Unlike blocks are pressed to unlike ones: each step of a round can be undone. -/
import Derived.Test.YtmhhekiliojifaaA7
import Derived.Test.YtmhhekiliojifaaM2
namespace Go.Proofs.Ytmhhekiliojifaa
open Go.RowKit Go.Own

theorem xor_zero_iff {a b : Nat} : a ^^^ b = 0 ↔ a = b := by
  constructor
  · intro h
    have := congrArg (· ^^^ b) h
    simpa [Nat.xor_assoc] using this
  · rintro rfl; exact Nat.xor_self _
theorem gi_ext {s t : List Nat} (hl : s.length = t.length) (h : ∀ i, i < s.length → gi s i = gi t i) : s = t := by
  apply List.ext_getElem hl
  intro i h1 h2
  have := h i h1
  simpa [gi, List.getD, h1, h2] using this
theorem gi_wrd {s : List Nat} {i j : Nat} (hj : j < 4) : gi (wrd s i) j = gi s (i * 4 + j) := by
  simp [gi, wrd, List.getD, hj, List.getElem?_drop]
theorem wrd_ext {s t : List Nat} (hs : s.length = 16) (ht : t.length = 16) (h : ∀ i, i < 4 → wrd s i = wrd t i) : s = t := by
  refine gi_ext (by rw [hs, ht]) fun n hn => ?_
  have e := congrArg (fun l => gi l (n % 4)) (h (n / 4) (by omega))
  simp only [gi_wrd (show n % 4 < 4 by omega)] at e
  rwa [show n / 4 * 4 + n % 4 = n by omega] at e
theorem flat4 {f g : Nat → List Nat} (hf : ∀ i, (f i).length = 4) (hg : ∀ i, (g i).length = 4) (h : (List.range 4).flatMap f = (List.range 4).flatMap g) : ∀ i, i < 4 → f i = g i := by
  have h' : f 0 ++ (f 1 ++ (f 2 ++ (f 3 ++ []))) = g 0 ++ (g 1 ++ (g 2 ++ (g 3 ++ []))) := h
  obtain ⟨e0, h'⟩ := List.append_inj h' (by rw [hf, hg])
  obtain ⟨e1, h'⟩ := List.append_inj h' (by rw [hf, hg])
  obtain ⟨e2, h'⟩ := List.append_inj h' (by rw [hf, hg])
  obtain ⟨e3, _⟩ := List.append_inj h' (by rw [hf, hg])
  intro i hi
  have : i = 0 ∨ i = 1 ∨ i = 2 ∨ i = 3 := by omega
  rcases this with rfl | rfl | rfl | rfl <;> assumption
theorem map_range {n : Nat} {f g : Nat → Nat} (h : (List.range n).map f = (List.range n).map g) : ∀ i, i < n → f i = g i := by
  intro i hi
  have := congrArg (fun l => l[i]?) h
  simpa [hi] using this
theorem B8_wrd {s : List Nat} (h : B8 s) (i : Nat) : B8 (wrd s i) := (h.drop _).take _
theorem four_ext {x y : List Nat} (hx : x.length = 4) (hy : y.length = 4) (h : ∀ i, i < 4 → gi x i = gi y i) : x = y := gi_ext (by rw [hx, hy]) (by rw [hx]; exact h)
theorem xor8_cancel {a b k : Nat} (ha : a < 256) (hb : b < 256) (h : xor8 a k = xor8 b k) : a = b := by
  unfold xor8 at h
  rw [Nat.xor_mod_two_pow (n := 8), Nat.xor_mod_two_pow (n := 8), Nat.mod_eq_of_lt (show a < 2 ^ 8 from ha), Nat.mod_eq_of_lt (show b < 2 ^ 8 from hb)] at h
  have := congrArg (· ^^^ (k % 2 ^ 8)) h
  simpa [Nat.xor_assoc] using this
theorem xorL_inj {x y k : List Nat} (hx : x.length = 4) (hy : y.length = 4) (bx : B8 x) (by8 : B8 y) (h : xorL x k = xorL y k) : x = y :=
  four_ext hx hy fun i hi => xor8_cancel (bx.gi i) (by8.gi i) (map_range h i hi)
theorem addL_inj {cs s t : List Nat} {r : Nat} (hs : s.length = 16) (ht : t.length = 16) (bs : B8 s) (bt : B8 t) (h : addL cs s r = addL cs t r) : s = t :=
  wrd_ext hs ht fun i hi => xorL_inj (wrd_length (by omega)) (wrd_length (by omega)) (B8_wrd bs i) (B8_wrd bt i) (flat4 (fun _ => xorL_length _ _) (fun _ => xorL_length _ _) h i hi)
theorem sqr_inj {f : List Nat → List Nat} (hf : ∀ x, (f x).length = 4) (hi : ∀ x y, x.length = 4 → y.length = 4 → B8 x → B8 y → f x = f y → x = y)
    {s t : List Nat} (hs : s.length = 16) (ht : t.length = 16) (bs : B8 s) (bt : B8 t) (h : sqr f s = sqr f t) : s = t :=
  wrd_ext hs ht fun i hi4 => hi _ _ (wrd_length (by omega)) (wrd_length (by omega)) (B8_wrd bs i) (B8_wrd bt i) (flat4 (fun _ => hf _) (fun _ => hf _) h i hi4)
theorem eachL_inj {cs : List Nat} (hc : ∀ b, b < 256 → gi cs b = gi boxes b) (x y : List Nat) (hx : x.length = 4) (hy : y.length = 4) (bx : B8 x) (by8 : B8 y) (h : eachL cs x = eachL cs y) : x = y :=
  four_ext hx hy fun i hi => box_inj (bx.gi i) (by8.gi i) (by
    have := map_range h i hi
    simp only [eachF] at this
    rwa [hc _ (bx.gi i), hc _ (by8.gi i)] at this)
theorem turnL_inj {s t : List Nat} (hs : s.length = 16) (ht : t.length = 16) (h : turnL s = turnL t) : s = t := by
  refine gi_ext (by rw [hs, ht]) fun m hm => ?_
  rw [hs] at hm
  have e := map_range h (((m / 4 + 4 - m % 4) % 4) * 4 + m % 4) (by omega)
  unfold turnF at e
  have i1 : (((m / 4 + 4 - m % 4) % 4) * 4 + m % 4) / 4 = (m / 4 + 4 - m % 4) % 4 := by omega
  have i2 : (((m / 4 + 4 - m % 4) % 4) * 4 + m % 4) % 4 = m % 4 := by omega
  rw [i1, i2] at e
  have i3 : ((m / 4 + 4 - m % 4) % 4 + m % 4) % 4 * 4 + m % 4 = m := by omega
  rwa [i3] at e
theorem mix_zero {d0 d1 d2 d3 : Nat} (e0 : dbl d0 ^^^ dbl d1 ^^^ d1 ^^^ d2 ^^^ d3 = 0) (e1 : dbl d1 ^^^ dbl d2 ^^^ d2 ^^^ d3 ^^^ d0 = 0)
    (e2 : dbl d2 ^^^ dbl d3 ^^^ d3 ^^^ d0 ^^^ d1 = 0) (e3 : dbl d3 ^^^ dbl d0 ^^^ d0 ^^^ d1 ^^^ d2 = 0) : d0 = 0 ∧ d1 = 0 ∧ d2 = 0 ∧ d3 = 0 := by
  have s : d0 ^^^ d1 ^^^ d2 ^^^ d3 = 0 := by
    have h : (dbl d0 ^^^ dbl d1 ^^^ d1 ^^^ d2 ^^^ d3) ^^^ (dbl d1 ^^^ dbl d2 ^^^ d2 ^^^ d3 ^^^ d0) ^^^ (dbl d2 ^^^ dbl d3 ^^^ d3 ^^^ d0 ^^^ d1) ^^^ (dbl d3 ^^^ dbl d0 ^^^ d0 ^^^ d1 ^^^ d2) = 0 := by rw [e0, e1, e2, e3]; rfl
    rw [← h]
    apply Nat.eq_of_testBit_eq
    intro i
    simp only [Nat.testBit_xor]
    generalize (dbl d0).testBit i = b0
    generalize (dbl d1).testBit i = b1
    generalize (dbl d2).testBit i = b2
    generalize (dbl d3).testBit i = b3
    generalize d0.testBit i = c0
    generalize d1.testBit i = c1
    generalize d2.testBit i = c2
    generalize d3.testBit i = c3
    revert b0 b1 b2 b3 c0 c1 c2 c3
    decide
  have key : ∀ x y z u : Nat, x ^^^ y ^^^ z ^^^ u = 0 → dbl x ^^^ dbl y ^^^ y ^^^ z ^^^ u = 0 → x = dbl (x ^^^ y) := by
    intro x y z u h1 h2
    rw [dbl_xor]
    have h : x = (dbl x ^^^ dbl y) ^^^ ((x ^^^ y ^^^ z ^^^ u) ^^^ (dbl x ^^^ dbl y ^^^ y ^^^ z ^^^ u)) := by
      apply Nat.eq_of_testBit_eq
      intro i
      simp only [Nat.testBit_xor]
      generalize (dbl x).testBit i = b0
      generalize (dbl y).testBit i = b1
      generalize x.testBit i = c0
      generalize y.testBit i = c1
      generalize z.testBit i = c2
      generalize u.testBit i = c3
      revert b0 b1 c0 c1 c2 c3
      decide
    rw [h1, h2] at h
    simpa using h
  have k0 := key d0 d1 d2 d3 s e0
  have k1 := key d1 d2 d3 d0 (by rw [← s]; ac_rfl) e1
  have k2 := key d2 d3 d0 d1 (by rw [← s]; ac_rfl) e2
  have k3 := key d3 d0 d1 d2 (by rw [← s]; ac_rfl) e3
  have hv : d0 ^^^ d2 = d1 ^^^ d3 := by
    apply xor_zero_iff.1
    rw [← s]; ac_rfl
  have u0 : d0 ^^^ d1 = dbl (d0 ^^^ d2) := by
    have : dbl (d0 ^^^ d1) ^^^ dbl (d1 ^^^ d2) = dbl (d0 ^^^ d2) := by
      rw [← dbl_xor, show d0 ^^^ d1 ^^^ (d1 ^^^ d2) = d0 ^^^ d2 ^^^ (d1 ^^^ d1) by ac_rfl, Nat.xor_self, Nat.xor_zero]
    rw [← this, ← k0, ← k1]
  have u1 : d1 ^^^ d2 = dbl (d1 ^^^ d3) := by
    have : dbl (d1 ^^^ d2) ^^^ dbl (d2 ^^^ d3) = dbl (d1 ^^^ d3) := by
      rw [← dbl_xor, show d1 ^^^ d2 ^^^ (d2 ^^^ d3) = d1 ^^^ d3 ^^^ (d2 ^^^ d2) by ac_rfl, Nat.xor_self, Nat.xor_zero]
    rw [← this, ← k1, ← k2]
  have u2 : d2 ^^^ d3 = dbl (d2 ^^^ d0) := by
    have : dbl (d2 ^^^ d3) ^^^ dbl (d3 ^^^ d0) = dbl (d2 ^^^ d0) := by
      rw [← dbl_xor, show d2 ^^^ d3 ^^^ (d3 ^^^ d0) = d2 ^^^ d0 ^^^ (d3 ^^^ d3) by ac_rfl, Nat.xor_self, Nat.xor_zero]
    rw [← this, ← k2, ← k3]
  have d00 : dbl 0 = 0 := by decide
  have v0 : d0 ^^^ d2 = 0 := by
    have : (d0 ^^^ d1) ^^^ (d1 ^^^ d2) = d0 ^^^ d2 := by
      rw [show d0 ^^^ d1 ^^^ (d1 ^^^ d2) = d0 ^^^ d2 ^^^ (d1 ^^^ d1) by ac_rfl, Nat.xor_self, Nat.xor_zero]
    rw [← this, u0, u1, hv, Nat.xor_self]
  have z0 : d0 ^^^ d1 = 0 := by rw [u0, v0, d00]
  have z1 : d1 ^^^ d2 = 0 := by rw [u1, ← hv, v0, d00]
  have z2 : d2 ^^^ d3 = 0 := by rw [u2, Nat.xor_comm, v0, d00]
  have y0 : d0 = 0 := by rw [k0, z0, d00]
  have y1 : d1 = 0 := by rw [k1, z1, d00]
  have y2 : d2 = 0 := by rw [k2, z2, d00]
  refine ⟨y0, y1, y2, ?_⟩
  have := z2
  rw [y2, Nat.zero_xor] at this
  exact this
theorem mixF_plain {x : List Nat} (b : B8 x) (i : Nat) :
    mixF x i = dbl (gi x i) ^^^ dbl (gi x ((i + 1) % 4)) ^^^ gi x ((i + 1) % 4) ^^^ gi x ((i + 2) % 4) ^^^ gi x ((i + 3) % 4) := by
  have l1 := xor_lt8 (dbl_lt (gi x i)) (dbl_lt (gi x ((i + 1) % 4)))
  have l2 := xor_lt8 l1 (b.gi ((i + 1) % 4))
  have l3 := xor_lt8 l2 (b.gi ((i + 2) % 4))
  unfold mixF
  rw [xor8_eq (dbl_lt _) (dbl_lt _), xor8_eq l1 (b.gi _), xor8_eq l2 (b.gi _), xor8_eq l3 (b.gi _)]
theorem mixL_inj (x y : List Nat) (hx : x.length = 4) (hy : y.length = 4) (bx : B8 x) (by8 : B8 y) (h : mixL x = mixL y) : x = y := by
  have e : ∀ i, i < 4 → dbl (gi x i ^^^ gi y i) ^^^ dbl (gi x ((i + 1) % 4) ^^^ gi y ((i + 1) % 4)) ^^^ (gi x ((i + 1) % 4) ^^^ gi y ((i + 1) % 4)) ^^^ (gi x ((i + 2) % 4) ^^^ gi y ((i + 2) % 4)) ^^^ (gi x ((i + 3) % 4) ^^^ gi y ((i + 3) % 4)) = 0 := by
    intro i hi
    have := map_range h i hi
    rw [mixF_plain bx, mixF_plain by8] at this
    have h0 := xor_zero_iff.2 this
    rw [← h0, dbl_xor, dbl_xor]
    ac_rfl
  obtain ⟨z0, z1, z2, z3⟩ := mix_zero (e 0 (by decide)) (e 1 (by decide)) (e 2 (by decide)) (e 3 (by decide))
  refine four_ext hx hy fun i hi => ?_
  have : i = 0 ∨ i = 1 ∨ i = 2 ∨ i = 3 := by omega
  rcases this with rfl | rfl | rfl | rfl
  · exact xor_zero_iff.1 z0
  · exact xor_zero_iff.1 z1
  · exact xor_zero_iff.1 z2
  · exact xor_zero_iff.1 z3
theorem B8_sqr {f : List Nat → List Nat} (h : ∀ x, B8 (f x)) (s : List Nat) : B8 (sqr f s) := B8.flat fun _ _ => h _
theorem B8_turnL {s : List Nat} (h : B8 s) : B8 (turnL s) := B8.map (fun _ => h.gi _) _
theorem B8_mixL (x : List Nat) : B8 (mixL x) := B8.map (fun _ => xor8_lt _ _) _
theorem rnd_inj {cs s t : List Nat} {r : Nat} (hb : B8 cs) (hc : ∀ b, b < 256 → gi cs b = gi boxes b) (hs : s.length = 16) (ht : t.length = 16) (bs : B8 s) (bt : B8 t) (h : rnd cs s r = rnd cs t r) : s = t := by
  have el := eachL_length cs
  have h1 := addL_inj (sqr_length mixL_length _) (sqr_length mixL_length _) (B8_sqr B8_mixL _) (B8_sqr B8_mixL _) h
  have h2 := sqr_inj mixL_length mixL_inj (turnL_length _) (turnL_length _) (B8_turnL (B8_sqr (B8_eachL hb) _)) (B8_turnL (B8_sqr (B8_eachL hb) _)) h1
  have h3 := turnL_inj (sqr_length el _) (sqr_length el _) h2
  exact sqr_inj el (eachL_inj hc) hs ht bs bt h3
theorem sq_inj {cs s t : List Nat} (hb : B8 cs) (hc : ∀ b, b < 256 → gi cs b = gi boxes b) (hs : s.length = 16) (ht : t.length = 16) (bs : B8 s) (bt : B8 t) : ∀ r, sq cs s r = sq cs t r → s = t
  | 0, h => addL_inj hs ht bs bt h
  | r + 1, h => sq_inj hb hc hs ht bs bt r (rnd_inj hb hc (sq_length _ _ _) (sq_length _ _ _) (sq_B8 _ _ _) (sq_B8 _ _ _) h)
theorem pressL_inj {cs s t : List Nat} (hb : B8 cs) (hc : ∀ b, b < 256 → gi cs b = gi boxes b) (hs : s.length = 16) (ht : t.length = 16) (bs : B8 s) (bt : B8 t) (h : pressL cs s = pressL cs t) : s = t := by
  have el := eachL_length cs
  have h1 := addL_inj (turnL_length _) (turnL_length _) (B8_turnL (B8_sqr (B8_eachL hb) _)) (B8_turnL (B8_sqr (B8_eachL hb) _)) h
  have h3 := turnL_inj (sqr_length el _) (sqr_length el _) h1
  exact sq_inj hb hc hs ht bs bt 13 (sqr_inj el (eachL_inj hc) (sq_length _ _ _) (sq_length _ _ _) (sq_B8 _ _ _) (sq_B8 _ _ _) h3)
theorem cipher_box (key : List Nat) (b : Nat) (hb : b < 256) : gi (cipher key) b = gi boxes b := by
  have hl := boxes_length
  simp only [gi, cipher, List.getD_eq_getElem?_getD]
  rw [List.getElem?_append_left (by omega)]
theorem cipher_B8 (key : List Nat) (h : B8 key) : B8 (cipher key) := boxes_B8.append (wst_B8 cs0 key h 52)
theorem pressL_length (cs t : List Nat) : (pressL cs t).length = 16 := addL_length _ _ _
theorem pressL_B8 (cs t : List Nat) : B8 (pressL cs t) := addL_B8 _ _ _
/-- Pressed texts are one just if the texts are. -/
theorem press_apart (key : ByteArray) {x y : ByteArray} (hx : x.size = 16) (hy : y.size = 16) : mkS (pressL (cipher (bys key)) (bys x)) = mkS (pressL (cipher (bys key)) (bys y)) ↔ x = y := by
  constructor
  · intro h
    have := congrArg bys h
    rw [bys_mkS _ (pressL_B8 _ _), bys_mkS _ (pressL_B8 _ _)] at this
    exact bys_inj (pressL_inj (cipher_B8 _ (B8.bys _)) (cipher_box _) (by rw [bys_length, hx]) (by rw [bys_length, hy]) (B8.bys _) (B8.bys _) this)
  · rintro rfl; rfl
end Go.Proofs.Ytmhhekiliojifaa

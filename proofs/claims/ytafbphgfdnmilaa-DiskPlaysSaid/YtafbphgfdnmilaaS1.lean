/- The program's disk and the document's: sectors in a row, and sectors one by one. No condition. -/
import Derived.Test.YtafbphgfdnmilaaF8
import Derived.Test.YtafbphgfdnmilaaN3
namespace Go.Proofs.Ytafbphgfdnmilaa
open Go.RowKit Go.Own

theorem fl_length : ∀ {n : Nat} {L : List (List Nat)}, Secs n L → L.flatten.length = n * 64
  | 0, [], _ => rfl
  | 0, _ :: _, h => absurd h.1 (by simp)
  | _ + 1, [], h => absurd h.1 (by simp)
  | n + 1, s :: L, h => by
    have h1 : Secs n L := ⟨by have := h.1; simpa using this, fun x hx => h.2 x (by simp [hx])⟩
    rw [List.flatten_cons, List.length_append, fl_length h1, (h.2 s (by simp)).1]; omega
theorem spl_app (s F u : List Nat) (o : Nat) : spl (s ++ F) (s.length + o) u = s ++ spl F o u := by
  unfold spl
  rw [List.take_append, List.take_of_length_le (by omega), Nat.add_sub_cancel_left, List.drop_append, List.drop_of_length_le (by omega), List.nil_append, show s.length + o + u.length - s.length = o + u.length by omega, List.append_assoc, List.append_assoc, List.append_assoc]
theorem spl_flatten : ∀ {n a : Nat} {L : List (List Nat)} (u : List Nat), Secs n L → a < n → u.length ≤ 64 → spl L.flatten (a * 64) u = (L.set a (u ++ (L.getD a []).drop u.length)).flatten
  | 0, _, _, _, _, ha, _ => absurd ha (by omega)
  | _ + 1, _, [], _, h, _, _ => absurd h.1 (by simp)
  | n + 1, 0, s :: L, u, h, _, hu => by
    have hs := (h.2 s (by simp)).1
    show spl (s ++ L.flatten) (0 * 64) u = (u ++ s.drop u.length) ++ L.flatten
    unfold spl
    rw [Nat.zero_mul, List.take_zero, List.nil_append, Nat.zero_add, List.drop_append, show u.length - s.length = 0 by omega, List.drop_zero, List.append_assoc]
  | n + 1, a + 1, s :: L, u, h, ha, hu => by
    have hs := (h.2 s (by simp)).1
    have h1 : Secs n L := ⟨by have := h.1; simpa using this, fun x hx => h.2 x (by simp [hx])⟩
    have ih := spl_flatten (n := n) (a := a) (L := L) u h1 (by omega) hu
    show spl (s ++ L.flatten) ((a + 1) * 64) u = s ++ (L.set a (u ++ (L.getD a []).drop u.length)).flatten
    rw [show (a + 1) * 64 = s.length + a * 64 by omega, spl_app, ih]
theorem set_flatten {n a : Nat} {L : List (List Nat)} {u : List Nat} (h : Secs n L) (ha : a < n) (hu : u.length = 64) : spl L.flatten (a * 64) u = (L.set a u).flatten := by
  rw [spl_flatten u h ha (by omega), List.drop_of_length_le (by rw [(h.get ha).2.1]; omega), List.append_nil]
theorem sec_flatten : ∀ {n a : Nat} {L : List (List Nat)}, Secs n L → a < n → sec L.flatten a = L.getD a []
  | 0, _, _, _, ha => absurd ha (by omega)
  | _ + 1, _, [], h, _ => absurd h.1 (by simp)
  | n + 1, 0, s :: L, h, _ => by
    have hs := (h.2 s (by simp)).1
    show ((s ++ L.flatten).drop (0 * 64)).take 64 = s
    rw [Nat.zero_mul, List.drop_zero, List.take_append_of_le_length (by omega), List.take_of_length_le (by omega)]
  | n + 1, a + 1, s :: L, h, ha => by
    have hs := (h.2 s (by simp)).1
    have h1 : Secs n L := ⟨by have := h.1; simpa using this, fun x hx => h.2 x (by simp [hx])⟩
    have ih := sec_flatten (n := n) (a := a) h1 (by omega)
    show ((s ++ L.flatten).drop ((a + 1) * 64)).take 64 = L.getD a []
    rw [show (a + 1) * 64 = s.length + a * 64 by omega, List.drop_append, List.drop_of_length_le (by omega), List.nil_append, Nat.add_sub_cancel_left]
    exact ih
/-- Writes of sectors that are there. -/
def Wok (n : Nat) (ws : List (Nat × List Nat)) : Prop := ∀ p ∈ ws, p.1 < n ∧ p.2.length = 64 ∧ B8 p.2
theorem Wok.tail {n : Nat} {p : Nat × List Nat} {ws : List (Nat × List Nat)} (h : Wok n (p :: ws)) : Wok n ws := fun q hq => h q (by simp [hq])
theorem Wok.take {n : Nat} {ws : List (Nat × List Nat)} (h : Wok n ws) (k : Nat) : Wok n (ws.take k) := fun q hq => h q (List.mem_of_mem_take hq)
theorem tear_flatten {n : Nat} (k : Nat) (t last : Int) : ∀ (ws : List (Nat × List Nat)) (i : Nat) (L : List (List Nat)), Secs n L → Wok n ws → tearL k t last i L.flatten ws = (tearR k t last i L ws).flatten
  | [], _, _, _, _ => rfl
  | p :: ws, i, L, h, hw => by
    have hp := hw p (by simp)
    have hk := keptN_le k t last i
    have hl : (p.2.take (keptN k t last i)).length = keptN k t last i := by rw [List.length_take, hp.2.1]; omega
    show tearL k t last (i + 1) (spl L.flatten (p.1 * 64) (p.2.take (keptN k t last i))) ws = (tearR k t last (i + 1) (L.set p.1 (p.2.take (keptN k t last i) ++ (L.getD p.1 []).drop (keptN k t last i))) ws).flatten
    rw [spl_flatten _ h hp.1 (by omega), hl]
    exact tear_flatten k t last ws (i + 1) _ (h.torn hp.1 hp.2 hk) hw.tail
def settleR (T S : List (List Nat)) (ws : List (Nat × List Nat)) : List (List Nat) := ws.foldl (fun t p => t.set p.1 (S.getD p.1 [])) T
theorem settle_flatten {n : Nat} {S : List (List Nat)} (hS : Secs n S) : ∀ (ws : List (Nat × List Nat)) (T : List (List Nat)), Secs n T → Wok n ws → settleL T.flatten S.flatten ws = (settleR T S ws).flatten
  | [], _, _, _ => rfl
  | p :: ws, T, h, hw => by
    have hp := hw p (by simp)
    show settleL (spl T.flatten (p.1 * 64) (sec S.flatten p.1)) S.flatten ws = (settleR (T.set p.1 (S.getD p.1 [])) S ws).flatten
    obtain ⟨_, h2, h3⟩ := hS.get hp.1
    rw [sec_flatten hS hp.1, set_flatten h hp.1 h2]
    exact settle_flatten hS ws _ (h.set ⟨h2, h3⟩) hw.tail
theorem getD_set_same {a : Nat} {L : List (List Nat)} {u : List Nat} (h : a < L.length) : (L.set a u).getD a [] = u := by
  rw [List.getD_eq_getElem?_getD, List.getElem?_set_self h]; rfl
theorem getD_set_other {a b : Nat} {L : List (List Nat)} {u : List Nat} (h : b ≠ a) : (L.set b u).getD a [] = L.getD a [] := by
  rw [List.getD_eq_getElem?_getD, List.getElem?_set_ne h, ← List.getD_eq_getElem?_getD]
theorem settleR_eq {n : Nat} {S : List (List Nat)} (hS : S.length = n) : ∀ (ws : List (Nat × List Nat)) (T : List (List Nat)), T.length = n → (∀ a, a < n → (∀ p ∈ ws, p.1 ≠ a) → T.getD a [] = S.getD a []) → settleR T S ws = S
  | [], T, hT, h => by
    show T = S
    refine List.ext_getElem (by omega) fun a h1 h2 => ?_
    have := h a (by omega) (fun p hp => by simp at hp)
    simpa [List.getD_eq_getElem?_getD, List.getElem?_eq_getElem h1, List.getElem?_eq_getElem h2] using this
  | p :: ws, T, hT, h => by
    show settleR (T.set p.1 (S.getD p.1 [])) S ws = S
    refine settleR_eq hS ws _ (by rw [List.length_set, hT]) fun a ha hno => ?_
    by_cases hpa : p.1 = a
    · subst hpa
      rw [getD_set_same (by omega)]
    · rw [getD_set_other hpa]
      refine h a ha fun q hq => ?_
      rcases List.mem_cons.1 hq with rfl | hq
      · exact hpa
      · exact hno q hq
theorem tearR_other (k : Nat) (t last : Int) {a : Nat} : ∀ (ws : List (Nat × List Nat)) (i : Nat) (L : List (List Nat)), (∀ p ∈ ws, p.1 ≠ a) → (tearR k t last i L ws).getD a [] = L.getD a []
  | [], _, _, _ => rfl
  | p :: ws, i, L, h => by
    show (tearR k t last (i + 1) _ ws).getD a [] = _
    rw [tearR_other k t last ws (i + 1) _ fun q hq => h q (by simp [hq]), getD_set_other (h p (by simp))]
theorem applyR_other {a : Nat} : ∀ (ws : List (Nat × List Nat)) (L : List (List Nat)), (∀ p ∈ ws, p.1 ≠ a) → (applyR L ws).getD a [] = L.getD a []
  | [], _, _ => rfl
  | p :: ws, L, h => by
    show (applyR (L.set p.1 p.2) ws).getD a [] = _
    rw [applyR_other ws _ fun q hq => h q (by simp [hq]), getD_set_other (h p (by simp))]
theorem seenR_eq {a : Nat} : ∀ (ws : List (Nat × List Nat)) (L : List (List Nat)), a < L.length → seenR a (L.getD a []) ws = (applyR L ws).getD a []
  | [], _, _ => rfl
  | p :: ws, L, h => by
    show seenR a (if p.1 = a then p.2 else L.getD a []) ws = (applyR (L.set p.1 p.2) ws).getD a []
    have ih := seenR_eq (a := a) ws (L.set p.1 p.2) (by rw [List.length_set]; exact h)
    rw [← ih]
    congr 1
    by_cases hpa : p.1 = a
    · rw [if_pos hpa, hpa, getD_set_same h]
    · rw [if_neg hpa, getD_set_other hpa]

/-- The two disks, but for what is armed. -/
structure Rel0 (M : Dk) (R : Rk) : Prop where
  n : M.n = R.lasts.length
  last : M.last = R.lasts.flatten
  off : M.off = R.off
  count : M.count = R.wait.length
  wait : M.wait = R.wait.take 64
  seen : M.seen = (applyR R.lasts R.wait).flatten
/-- What is armed. -/
def RelA (M : Dk) (R : Rk) : Prop := (R.cat < 1 ∧ M.cat = 0) ∨ ((R.count : Int) < R.cat ∧ M.cat = R.cat - R.count ∧ M.keep = R.keep ∧ M.torn = R.torn)
def Rel (M : Dk) (R : Rk) : Prop := Rel0 M R ∧ RelA M R
theorem Rel0.apply {M : Dk} {R : Rk} (_ : Rel0 M R) (hR : R.Ok) : Secs R.lasts.length (applyR R.lasts R.wait) := Secs.apply _ _ hR.secs hR.waitO
/-- What waits is settled to what the sectors that wait have, where the others are the same. -/
theorem Rel0.settled {M : Dk} {R : Rk} (h : Rel0 M R) (hR : R.Ok) {T S : List (List Nat)} (hT : Secs R.lasts.length T) (hS : Secs R.lasts.length S) (he : ∀ a, a < R.lasts.length → (∀ p ∈ R.wait, p.1 ≠ a) → T.getD a [] = S.getD a []) :
    M.settled T.flatten S.flatten = S.flatten := by
  have hw : Wok R.lasts.length M.wait := by rw [h.wait]; exact Wok.take hR.waitO 64
  unfold Dk.settled
  by_cases hl : M.wait.length < M.count
  · rw [if_pos hl, settle_flatten hS _ _ hS hw, settleR_eq hS.1 _ _ hS.1 fun _ _ _ => rfl]
  · rw [if_neg hl, settle_flatten hS _ _ hT hw, settleR_eq hS.1 _ _ hT.1 fun a ha hno => he a ha fun p hp => hno p ?_]
    rw [h.wait, List.length_take, h.count] at hl
    rw [h.wait, List.take_of_length_le (by omega)]
    exact hp
theorem Rel0.fail {M : Dk} {R : Rk} (h : Rel0 M R) (hR : R.Ok) (hoff : M.off = false) (k : Nat) (t : Int) : Rel (M.crash k t) (R.fail k t) := by
  have hw : Wok R.lasts.length (R.wait.take 64) := Wok.take hR.waitO 64
  have ht : M.torned k t = (tearR k t ((R.wait.length : Int) - 1) 0 R.lasts (R.wait.take 64)).flatten := by
    unfold Dk.torned
    rw [h.last, h.wait, h.count]
    exact tear_flatten k t _ _ _ _ hR.secs hw
  have hS : Secs R.lasts.length (tearR k t ((R.wait.length : Int) - 1) 0 R.lasts (R.wait.take 64)) := Secs.tear k t _ _ _ _ hR.secs hw
  have hs : M.settled M.seen (M.torned k t) = M.torned k t := by
    rw [ht, h.seen]
    refine h.settled hR (h.apply hR) hS fun a ha hno => ?_
    rw [applyR_other _ _ hno, tearR_other _ _ _ _ _ _ fun p hp => hno p (List.mem_of_mem_take hp)]
  unfold Dk.crash
  rw [if_neg (by rw [hoff]; simp), hs]
  refine ⟨⟨h.n.trans hS.1.symm, ht, rfl, rfl, rfl, ht⟩, .inl ⟨show (0 : Int) < 1 by decide, rfl⟩⟩
theorem Rel.crash {M : Dk} {R : Rk} (h : Rel M R) (hR : R.Ok) (k : Nat) (t : Int) : Rel (M.crash k t) (R.crash k t) := by
  cases hoff : M.off with
  | true =>
    have h2 : R.off = true := by rw [← h.1.off]; exact hoff
    have e1 : M.crash k t = M := by unfold Dk.crash; rw [if_pos hoff]
    have e2 : R.crash k t = R := by unfold Rk.crash; rw [if_pos h2]
    rw [e1, e2]; exact h
  | false =>
    have h2 : R.off = false := by rw [← h.1.off]; exact hoff
    have e2 : R.crash k t = R.fail k t := by unfold Rk.crash; rw [if_neg (by rw [h2]; simp)]
    rw [e2]; exact h.1.fail hR hoff k t
theorem Rel.counted {M : Dk} {R : Rk} (h : Rel M R) (hR : R.Ok) (hoff : M.off = false) : Rel M.counted.1 R.counted.1 ∧ M.counted.2 = if R.counted.2 then 7 else 0 := by
  obtain ⟨h0, hA⟩ := h
  unfold Dk.counted Rk.counted
  rcases hA with ⟨ha, hc⟩ | ⟨ha, hc, hk, ht⟩
  · rw [if_pos hc, if_neg (by omega)]
    exact ⟨⟨⟨h0.n, h0.last, h0.off, h0.count, h0.wait, h0.seen⟩, .inl ⟨ha, hc⟩⟩, rfl⟩
  · rw [if_neg (by omega)]
    by_cases hf : R.cat = (R.count : Int) + 1
    · rw [if_neg (by omega), if_pos ⟨by omega, hf⟩]
      refine ⟨?_, rfl⟩
      have h1 : Rel0 { M with cat := M.cat - 1 } { R with count := R.count + 1 } := ⟨h0.n, h0.last, h0.off, h0.count, h0.wait, h0.seen⟩
      have h3 := h1.fail ⟨hR.lastO, hR.waitO⟩ hoff M.keep M.torn
      have e : ({ R with count := R.count + 1 } : Rk).fail M.keep M.torn = ({ R with count := R.count + 1 } : Rk).fail R.keep R.torn := by rw [hk, ht]
      rw [e] at h3
      exact h3
    · rw [if_pos (by omega), if_neg (by omega)]
      exact ⟨⟨⟨h0.n, h0.last, h0.off, h0.count, h0.wait, h0.seen⟩, .inr ⟨show ((R.count + 1 : Nat) : Int) < R.cat by omega, show M.cat - 1 = R.cat - ((R.count + 1 : Nat) : Int) by omega, hk, ht⟩⟩, rfl⟩
theorem Rel.waited {M : Dk} {R : Rk} (h : Rel M R) (hR : R.Ok) {a : Nat} {x : List Nat} (ha : a < R.lasts.length) (hx : x.length = 64) : Rel (M.waited a x) { R with wait := R.wait ++ [(a, x)] } := by
  obtain ⟨h0, hA⟩ := h
  refine ⟨⟨h0.n, h0.last, h0.off, ?_, ?_, ?_⟩, hA⟩
  · show M.count + 1 = (R.wait ++ [(a, x)]).length
    rw [List.length_append, List.length_singleton, h0.count]
  · show (if M.count < 64 then M.wait ++ [(a, x)] else M.wait) = (R.wait ++ [(a, x)]).take 64
    rw [h0.wait, h0.count]
    by_cases hl : R.wait.length < 64
    · rw [if_pos hl, List.take_of_length_le (by omega), List.take_of_length_le (by simp; omega)]
    · rw [if_neg hl, List.take_append_of_le_length (by omega)]
  · show spl M.seen (a * 64) x = (applyR R.lasts (R.wait ++ [(a, x)])).flatten
    rw [applyR_snoc, h0.seen, set_flatten (h0.apply hR) ha hx]
theorem Rel.ref {M : Dk} {R : Rk} (h : Rel M R) (x : Int) : refE M.off M.n x = refE R.off R.lasts.length x := by rw [h.1.off, h.1.n]
theorem Rel.write {M : Dk} {R : Rk} (h : Rel M R) (hR : R.Ok) (x : Int) {s : List Nat} (hB : B8 s) : Rel (M.write x s).1 (R.put x s).1 ∧ (M.write x s).2 = (R.put x s).2 := by
  unfold Dk.write Rk.put
  rw [h.ref x]
  by_cases hr : refE R.off R.lasts.length x = 0
  · rw [if_pos hr, if_pos hr]
    by_cases h64 : 64 < s.length
    · rw [if_pos h64, if_pos h64]; exact ⟨h, rfl⟩
    · rw [if_neg h64, if_neg h64]
      obtain ⟨ho, a, rfl, ha⟩ := refE_ok hr
      have hf := filL_length (s := s) (by omega)
      have hc := (h.waited hR ha hf).counted ⟨hR.lastO, fun p hp => ?_⟩ (h.1.off.trans ho)
      · exact hc
      · rcases List.mem_append.1 hp with hp | hp
        · exact hR.waitO p hp
        · obtain rfl := List.mem_singleton.1 hp
          exact ⟨ha, hf, filL_B8 hB⟩
  · rw [if_neg hr, if_neg hr]; exact ⟨h, rfl⟩
theorem Rel.read {M : Dk} {R : Rk} (h : Rel M R) (hR : R.Ok) (x : Int) : M.read x = R.read x := by
  unfold Dk.read Rk.read
  rw [h.ref x]
  by_cases hr : refE R.off R.lasts.length x = 0
  · rw [if_pos hr, if_pos hr]
    obtain ⟨ho, a, rfl, ha⟩ := refE_ok hr
    rw [h.1.seen, Int.toNat_natCast, sec_flatten (h.1.apply hR) ha, seenR_eq _ _ ha]
  · rw [if_neg hr, if_neg hr]
theorem Rk.Ok.counted {R : Rk} (h : R.Ok) : R.counted.1.Ok := by
  unfold Rk.counted
  split
  · exact Rk.Ok.fail (R := { R with count := R.count + 1 }) ⟨h.lastO, h.waitO⟩ _ _
  · exact ⟨h.lastO, h.waitO⟩
theorem Rel.flush {M : Dk} {R : Rk} (h : Rel M R) (hR : R.Ok) : Rel M.flush.1 R.flush.1 ∧ M.flush.2 = R.flush.2 := by
  unfold Dk.flush Rk.flush
  cases hoff : M.off with
  | true =>
    have h2 : R.off = true := by rw [← h.1.off]; exact hoff
    rw [if_pos rfl, if_pos h2]; exact ⟨h, rfl⟩
  | false =>
    have h2 : R.off = false := by rw [← h.1.off]; exact hoff
    rw [if_neg (show ¬ (false = true) by simp), if_neg (show ¬ (R.off = true) by rw [h2]; simp)]
    obtain ⟨hc, he⟩ := h.counted hR hoff
    have hO := hR.counted
    cases hb : R.counted.2 with
    | true =>
      rw [hb] at he
      rw [if_neg (show ¬ (M.counted.2 = 0) by rw [he]; simp), if_pos rfl]
      exact ⟨hc, he⟩
    | false =>
      rw [hb] at he
      rw [if_pos (show M.counted.2 = 0 by rw [he]; simp), if_neg (show ¬ (false = true) by simp)]
      refine ⟨?_, rfl⟩
      generalize M.counted.1 = N at hc
      generalize R.counted.1 = S at hc hO
      obtain ⟨h0, hA⟩ := hc
      have hs : N.settled N.last N.seen = N.seen := by
        rw [h0.last, h0.seen]
        exact h0.settled hO hO.secs (h0.apply hO) fun a ha hno => (applyR_other _ _ hno).symm
      refine ⟨⟨h0.n.trans (h0.apply hO).1.symm, hs.trans h0.seen, h0.off, rfl, rfl, h0.seen⟩, hA⟩
theorem Rel.arm {M : Dk} {R : Rk} (h : Rel M R) (a : Int) (k : Nat) (t : Int) : Rel (M.arm a k t) (R.arm a k t) := by
  obtain ⟨h0, -⟩ := h
  refine ⟨⟨h0.n, h0.last, h0.off, h0.count, h0.wait, h0.seen⟩, ?_⟩
  show (armA a < 1 ∧ armA a = 0) ∨ (((0 : Nat) : Int) < armA a ∧ armA a = armA a - ((0 : Nat) : Int) ∧ armK a k = armK a k ∧ armT a t = armT a t)
  unfold armA
  split
  · exact .inl ⟨by decide, rfl⟩
  · exact .inr ⟨by omega, by omega, rfl, rfl⟩
def Rk.start (R : Rk) : Rk := { R with off := false }
theorem Rel.start {M : Dk} {R : Rk} (h : Rel M R) : Rel M.start R.start := ⟨⟨h.1.n, h.1.last, rfl, h.1.count, h.1.wait, h.1.seen⟩, h.2⟩
theorem Rel.new (n : Nat) : Rel (newK n) (newR n) := by
  have e : rep (n * 64) = (List.replicate n (rep 64)).flatten := by unfold rep; rw [List.flatten_replicate_replicate]
  exact ⟨⟨(List.length_replicate ..).symm, e, rfl, rfl, rfl, e⟩, .inl ⟨show (0 : Int) < 1 by decide, rfl⟩⟩

/-- So few calls are behind it. -/
def Bnd (c : Nat) (R : Rk) : Prop := R.count ≤ c ∧ R.wait.length ≤ c
theorem Bnd.next {c : Nat} {R : Rk} (h : Bnd c R) : Bnd (c + 1) R := ⟨by have := h.1; omega, by have := h.2; omega⟩
theorem Bnd.counted {c : Nat} {R : Rk} (h : R.count ≤ c) (h2 : R.wait.length ≤ c + 1) : Bnd (c + 1) R.counted.1 := by
  unfold Rk.counted
  split
  · exact ⟨show R.count + 1 ≤ _ by omega, Nat.zero_le _⟩
  · exact ⟨show R.count + 1 ≤ _ by omega, h2⟩
theorem Bnd.put {c : Nat} {R : Rk} (h : Bnd c R) (x : Int) (s : List Nat) : Bnd (c + 1) (R.put x s).1 := by
  unfold Rk.put
  split
  · split
    · exact h.next
    · exact Bnd.counted (R := { R with wait := R.wait ++ [(x.toNat, filL s)] }) h.1 (by show (R.wait ++ [_]).length ≤ _; rw [List.length_append, List.length_singleton]; have := h.2; omega)
  · exact h.next
theorem Bnd.flush {c : Nat} {R : Rk} (h : Bnd c R) : Bnd (c + 1) R.flush.1 := by
  have hc := Bnd.counted h.1 (by have := h.2; omega)
  unfold Rk.flush
  split
  · exact h.next
  · split
    · exact hc
    · exact ⟨hc.1, Nat.zero_le _⟩
theorem Bnd.arm {c : Nat} {R : Rk} (h : Bnd c R) (a : Int) (k : Nat) (t : Int) : Bnd (c + 1) (R.arm a k t) := ⟨Nat.zero_le _, h.next.2⟩
theorem Bnd.crash {c : Nat} {R : Rk} (h : Bnd c R) (k : Nat) (t : Int) : Bnd (c + 1) (R.crash k t) := by
  unfold Rk.crash
  split
  · exact h.next
  · exact ⟨h.next.1, Nat.zero_le _⟩
theorem Bnd.start {c : Nat} {R : Rk} (h : Bnd c R) : Bnd (c + 1) R.start := h.next
theorem Bnd.new (n : Nat) : Bnd 0 (newR n) := ⟨Nat.le_refl _, Nat.le_refl _⟩
end Go.Proofs.Ytafbphgfdnmilaa

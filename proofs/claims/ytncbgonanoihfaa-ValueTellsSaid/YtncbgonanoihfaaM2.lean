/- What was printed is read; what is read was printed; how long it is at most; going through places. No program. -/
import Derived.Test.YtncbgonanoihfaaM1
namespace Go.Own
theorem A.ind {p : A → Prop} (h1 : ∀ n, p (.num n)) (h2 : ∀ s, p (.str s)) (h3 : ∀ b, p (.bool b)) (h4 : ∀ l, (∀ x ∈ l, p x) → p (.list l)) (h5 : p .none) (h6 : p .odd) : ∀ a, p a :=
  fun a => A.rec (motive_1 := p) (motive_2 := fun l => ∀ x ∈ l, p x) h1 h2 h3 h4 h5 h6 (fun _ h => by cases h) (fun _ _ hx hr y hy => by
    rcases List.mem_cons.1 hy with rfl | hy
    · exact hx
    · exact hr y hy) a
theorem V.ind {p : V → Prop} (h : ∀ k n s b l, (∀ x ∈ l, p x) → p (.mk k n s b l)) : ∀ a, p a :=
  fun a => V.rec (motive_1 := p) (motive_2 := fun l => ∀ x ∈ l, p x) h (fun _ h => by cases h) (fun _ _ hx hr y hy => by
    rcases List.mem_cons.1 hy with rfl | hy
    · exact hx
    · exact hr y hy) a
theorem ofVs_map : ∀ l, ofVs l = l.map ofV
  | [] => rfl
  | x :: r => by rw [ofVs, ofVs_map r]; rfl
theorem toVs_map : ∀ l, toVs l = l.map toV
  | [] => rfl
  | x :: r => by rw [toVs, toVs_map r]; rfl
theorem prs_map : ∀ l, prs l = l.flatMap pr
  | [] => rfl
  | x :: r => by rw [prs, prs_map r]; rfl
theorem szs_map : ∀ l d, szs l d = (l.map (sz · d)).sum
  | [], _ => rfl
  | x :: r, d => by rw [szs, szs_map r]; rfl
theorem okAs_all : ∀ l, okAs l ↔ ∀ x ∈ l, okA x
  | [] => by simp [okAs]
  | x :: r => by rw [okAs, okAs_all r]; simp
theorem fewVs_all : ∀ l d, fewVs l d = l.all (fewV · d)
  | [], _ => rfl
  | x :: r, d => by rw [fewVs, fewVs_all r]; rfl
theorem ers_zero : ∀ l d, ers l d = 0 ↔ ∀ x ∈ l, er x d = 0
  | [], _ => by simp [ers]
  | x :: r, d => by
    rw [ers]
    have := ers_zero r d
    split
    · rename_i h; simp [h, this]
    · rename_i h; simp [h]
theorem ers_app_ok {l : List A} {d : Nat} (h : ers l d = 0) (r : List A) : ers (l ++ r) d = ers r d := by
  induction l with
  | nil => rfl
  | cons x l ih =>
    rw [ers] at h
    rw [List.cons_append, ers]
    split at h
    · rename_i hx; rw [if_pos hx]; exact ih h
    · rename_i hx; exact absurd h hx
theorem prs_app (l r : List A) : prs (l ++ r) = prs l ++ prs r := by simp [prs_map]
theorem szs_app (l r : List A) (d : Nat) : szs (l ++ r) d = szs l d + szs r d := by simp [szs_map]
theorem er_cases (a : A) (d : Nat) : er a d = 0 ∨ er a d = 3 ∨ er a d = 9 := by
  induction a using A.ind generalizing d with
  | h1 n => exact Or.inl rfl
  | h2 s => rw [er]; split <;> simp
  | h3 b => exact Or.inl rfl
  | h4 l ih =>
    rw [er]
    split
    · simp
    · have : ∀ r : List A, (∀ x ∈ r, x ∈ l) → ers r (d + 1) = 0 ∨ ers r (d + 1) = 3 ∨ ers r (d + 1) = 9 := by
        intro r
        induction r with
        | nil => intro _; exact Or.inl rfl
        | cons x r ihr =>
          intro hr
          rw [ers]
          split
          · exact ihr (fun y hy => hr y (by simp [hy]))
          · exact ih x (hr x (by simp)) (d + 1)
      exact this l (fun x hx => hx)
  | h5 => simp [er]
  | h6 => simp [er]
theorem pr_sz (a : A) (d : Nat) (h : er a d = 0) : (pr a).length = sz a d := by
  induction a using A.ind generalizing d with
  | h1 n => simp [pr, sz, be_length]
  | h2 s =>
    rw [er] at h
    split at h
    · cases h
    · rename_i hs; rw [sz, if_neg hs]; simp [pr, be_length, bys_length]; omega
  | h3 b => simp [pr, sz]
  | h4 l ih =>
    rw [er] at h
    split at h
    · cases h
    · rename_i hc
      rw [sz, if_neg hc, pr, List.length_cons, List.length_append, be_length, prs_map, szs_map, List.length_flatMap]
      have e : l.map (fun x => (pr x).length) = l.map (sz · (d + 1)) := List.map_congr_left fun x hx => ih x hx _ ((ers_zero l _).1 h x hx)
      rw [e]; omega
  | h5 => simp [er] at h
  | h6 => simp [er] at h
theorem er_mono (a : A) (d e : Nat) (hd : e ≤ d) (h : er a d = 0) : er a e = 0 := by
  induction a using A.ind generalizing d e with
  | h1 n => rfl
  | h2 s => exact h
  | h3 b => rfl
  | h4 l ih =>
    rw [er] at h ⊢
    split at h
    · cases h
    · rename_i hc
      rw [if_neg (by omega), ers_zero]
      exact fun x hx => ih x hx (d + 1) (e + 1) (by omega) ((ers_zero l _).1 h x hx)
  | h5 => exact h
  | h6 => exact h
theorem pr_lt (a : A) : ∀ c ∈ pr a, c < 256 := by
  induction a using A.ind with
  | h1 n => intro c hc; rw [pr, List.mem_cons] at hc; rcases hc with rfl | hc; omega; exact be_lt _ _ c hc
  | h2 s =>
    intro c hc
    rw [pr, List.mem_cons, List.mem_append] at hc
    rcases hc with rfl | hc | hc
    · omega
    · exact be_lt _ _ c hc
    · exact bys_lt s c hc
  | h3 b => intro c hc; rw [pr] at hc; cases b <;> simp at hc <;> omega
  | h4 l ih =>
    intro c hc
    rw [pr, List.mem_cons, List.mem_append] at hc
    rcases hc with rfl | hc | hc
    · omega
    · exact be_lt _ _ c hc
    · rw [prs_map, List.mem_flatMap] at hc
      obtain ⟨x, hx, hc⟩ := hc
      exact ih x hx c hc
  | h5 => intro c hc; simp [pr] at hc
  | h6 => intro c hc; simp [pr] at hc
theorem take_be (k n : Nat) (t : List Nat) : (be k n ++ t).take k = be k n := by
  rw [List.take_append_of_le_length (by rw [be_length]; omega), List.take_of_length_le (by rw [be_length]; omega)]
theorem drop_be (k n : Nat) (t : List Nat) : (be k n ++ t).drop k = t := by
  rw [List.drop_append_of_le_length (by rw [be_length]; omega), List.drop_of_length_le (by rw [be_length]; omega), List.nil_append]
theorem rd_pr (a : A) (d : Nat) (hd : d ≤ 8) (h : er a d = 0) (ho : okA a) (t : List Nat) : rd (8 - d) (pr a ++ t) = some (a, t) := by
  have hb : ∃ g, rd (8 - d) = body g := by
    cases 8 - d with
    | zero => exact ⟨_, rfl⟩
    | succ m => exact ⟨_, rfl⟩
  induction a using A.ind generalizing d t with
  | h1 n =>
    obtain ⟨g, hg⟩ := hb
    rw [hg, pr, List.cons_append, body, if_pos rfl, if_neg (by simp [be_length]), take_be, drop_be, val_be, p8, Nat.mod_eq_of_lt (u64_lt n), s64_u64 ho]
  | h2 s =>
    obtain ⟨g, hg⟩ := hb
    rw [er] at h
    split at h
    · cases h
    · rename_i hs
      have hm : s.size % 65536 = s.size := Nat.mod_eq_of_lt (by omega)
      have hl : (bys s).length = s.size := bys_length s
      rw [hg, pr, List.cons_append, List.append_assoc, body, if_neg (by decide), if_pos rfl, if_neg (by simp [be_length]), take_be, drop_be, val_be, show 256 ^ 2 = 65536 from rfl, hm, if_neg (by simp [be_length, hl]),
        List.take_append_of_le_length (by omega), List.take_of_length_le (by omega), mkS_bys, List.drop_append_of_le_length (by omega), List.drop_of_length_le (by omega), List.nil_append]
  | h3 b =>
    obtain ⟨g, hg⟩ := hb
    rw [hg, pr]
    cases b <;> simp [body]
  | h4 l ih =>
    rw [er] at h
    split at h
    · cases h
    · rename_i hc
      obtain ⟨m, hm⟩ : ∃ m, 8 - d = m + 1 := ⟨8 - d - 1, by omega⟩
      have hme : 8 - (d + 1) = m := by omega
      have key : ∀ (r : List A) (t : List Nat), (∀ x ∈ r, x ∈ l) → rdL (rd m) r.length (prs r ++ t) = some (r, t) := by
        intro r
        induction r with
        | nil => intro t _; rfl
        | cons x r ihr =>
          intro t hr
          have hx := hr x (by simp)
          have h1 := ih x hx (d + 1) (by omega) ((ers_zero l _).1 h x hx) ((okAs_all l).1 ho x hx) (prs r ++ t) (by
            rw [hme]; cases m with
            | zero => exact ⟨_, rfl⟩
            | succ m => exact ⟨_, rfl⟩)
          rw [hme] at h1
          rw [List.length_cons, rdL, prs, List.append_assoc, h1]
          simp only
          rw [ihr t (fun y hy => hr y (by simp [hy]))]
      have hk := key l t (fun x hx => hx)
      have e1 : be 1 l.length = [l.length] := by simp [be]; omega
      rw [hm, rd, pr, e1, List.cons_append, body, if_neg (by decide), if_neg (by decide), if_neg (by decide), if_neg (by decide), if_pos rfl]
      show listR (some (rd m)) (l.length :: (prs l ++ t)) = _
      simp only [listR]
      rw [hk]
  | h5 => simp [er] at h
  | h6 => simp [er] at h
theorem rd_body (m : Nat) : ∃ g, rd m = body g ∧ (g = none ∧ m = 0 ∨ ∃ k, m = k + 1 ∧ g = some (rd k)) := by
  cases m with
  | zero => exact ⟨_, rfl, Or.inl ⟨rfl, rfl⟩⟩
  | succ k => exact ⟨_, rfl, Or.inr ⟨k, rfl, rfl⟩⟩
/-- What is read was printed. -/
structure Was (m : Nat) (t : List Nat) (a : A) (t' : List Nat) : Prop where
  text : t = pr a ++ t'
  fine : er a (8 - m) = 0
  ok : okA a
theorem pr_rd : ∀ (m : Nat) (_ : m ≤ 8) (t : List Nat) (_ : ∀ c ∈ t, c < 256) (a : A) (t' : List Nat), rd m t = some (a, t') → Was m t a t' := by
  intro m
  induction m with
  | zero =>
    intro hm t hb a t' h
    exact go hm none (Or.inl rfl) t hb a t' h
  | succ k ih =>
    intro hm t hb a t' h
    exact go hm (some (rd k)) (Or.inr ⟨k, rfl, rfl, fun t hb a t' h => ih (by omega) t hb a t' h⟩) t hb a t' h
where
  go {m : Nat} (hm : m ≤ 8) (g : Option (List Nat → Option (A × List Nat))) (hg : g = none ∨ ∃ k, m = k + 1 ∧ g = some (rd k) ∧ ∀ (t : List Nat), (∀ c ∈ t, c < 256) → ∀ (a : A) (t' : List Nat), rd k t = some (a, t') → Was k t a t')
      (t : List Nat) (hb : ∀ c ∈ t, c < 256) (a : A) (t' : List Nat) (h : body g t = some (a, t')) : Was m t a t' := by
    cases t with
    | nil => cases h
    | cons c t =>
      have hbt : ∀ c ∈ t, c < 256 := fun x hx => hb x (by simp [hx])
      rw [body] at h
      split at h
      · rename_i hc
        subst hc
        split at h
        · cases h
        · rename_i hl
          simp only [Option.some.injEq, Prod.mk.injEq] at h
          obtain ⟨rfl, rfl⟩ := h
          have htl : (t.take 8).length = 8 := by simp; omega
          have hv := val_lt (t.take 8) (fun x hx => hbt x (List.mem_of_mem_take hx))
          rw [htl, p8] at hv
          have hbv := be_val (t.take 8) (fun x hx => hbt x (List.mem_of_mem_take hx))
          rw [htl] at hbv
          refine ⟨?_, rfl, s64_in hv⟩
          rw [pr, u64_s64 hv, hbv]
          simp
      · split at h
        · rename_i hc
          subst hc
          split at h
          · cases h
          · rename_i hl
            split at h
            · cases h
            · rename_i hl2
              simp only [Option.some.injEq, Prod.mk.injEq] at h
              obtain ⟨rfl, rfl⟩ := h
              have htl : (t.take 2).length = 2 := by simp; omega
              have hv := val_lt (t.take 2) (fun x hx => hbt x (List.mem_of_mem_take hx))
              rw [htl, show 256 ^ 2 = 65536 from rfl] at hv
              have hbv := be_val (t.take 2) (fun x hx => hbt x (List.mem_of_mem_take hx))
              rw [htl] at hbv
              generalize hn : val (t.take 2) = n at *
              have hpl : ((t.drop 2).take n).length = n := by simp; omega
              have hsz : (mkS ((t.drop 2).take n)).size = n := by rw [mkS_size, hpl]
              refine ⟨?_, ?_, trivial⟩
              · rw [pr, hsz, hbv, bys_mkS _ (fun x hx => hbt x (List.mem_of_mem_drop (List.mem_of_mem_take hx))), List.cons_append, List.append_assoc, List.take_append_drop, List.take_append_drop]
              · rw [er, hsz, if_neg (by omega)]
        · split at h
          · rename_i hc
            subst hc
            simp only [Option.some.injEq, Prod.mk.injEq] at h
            obtain ⟨rfl, rfl⟩ := h
            exact ⟨by simp [pr], rfl, trivial⟩
          · split at h
            · rename_i hc
              subst hc
              simp only [Option.some.injEq, Prod.mk.injEq] at h
              obtain ⟨rfl, rfl⟩ := h
              exact ⟨by simp [pr], rfl, trivial⟩
            · split at h
              · rename_i hc
                subst hc
                rcases hg with rfl | ⟨k, hk, rfl, ihk⟩
                · cases h
                · cases t with
                  | nil => cases h
                  | cons n t1 =>
                    have key : ∀ (n : Nat) (t : List Nat), (∀ c ∈ t, c < 256) → ∀ (l : List A) (t' : List Nat), rdL (rd k) n t = some (l, t') → t = prs l ++ t' ∧ l.length = n ∧ (∀ x ∈ l, er x (8 - k) = 0 ∧ okA x) := by
                      intro n
                      induction n with
                      | zero =>
                        intro t _ l t' h
                        simp only [rdL, Option.some.injEq, Prod.mk.injEq] at h
                        obtain ⟨rfl, rfl⟩ := h
                        exact ⟨rfl, rfl, fun x hx => by cases hx⟩
                      | succ n ihn =>
                        intro t hb l t' h
                        rw [rdL] at h
                        split at h
                        · cases h
                        · rename_i x t1 hx
                          split at h
                          · cases h
                          · rename_i r t2 hr
                            simp only [Option.some.injEq, Prod.mk.injEq] at h
                            obtain ⟨rfl, rfl⟩ := h
                            have w := ihk t hb x t1 hx
                            have hb1 : ∀ c ∈ t1, c < 256 := fun c hc => hb c (by rw [w.text]; simp [hc])
                            obtain ⟨e1, e2, e3⟩ := ihn t1 hb1 r t2 hr
                            refine ⟨by rw [w.text, e1]; simp [prs], by simp [e2], fun y hy => ?_⟩
                            rcases List.mem_cons.1 hy with rfl | hy
                            · exact ⟨w.fine, w.ok⟩
                            · exact e3 y hy
                    simp only [listR] at h
                    split at h
                    · cases h
                    · rename_i l t2 hl
                      simp only [Option.some.injEq, Prod.mk.injEq] at h
                      obtain ⟨rfl, rfl⟩ := h
                      obtain ⟨e1, e2, e3⟩ := key n t1 (fun c hc => hbt c (by simp [hc])) l t2 hl
                      have hn : n < 256 := hbt n (by simp)
                      refine ⟨?_, ?_, (okAs_all l).2 fun x hx => (e3 x hx).2⟩
                      · rw [pr, e2, e1]
                        simp [be, Nat.mod_eq_of_lt hn]
                      · rw [er, if_neg (by omega), ers_zero]
                        intro x hx
                        have := (e3 x hx).1
                        rwa [show 8 - (m) + 1 = 8 - k by omega]
              · cases h
/-- How long it is at most. -/
def bnd : Nat → Nat → Nat
  | 0, _ => 65538
  | f + 1, d => 65538 + (if d ≤ 1 then 255 else 5) * bnd f (d + 1)
theorem bnd_le : bnd 8 0 ≤ 100000000000000 := by decide +kernel
theorem sz_bnd (v : V) : ∀ (f d : Nat), f + d = 8 → fewV v d = true → sz (ofV v) d ≤ bnd f d := by
  induction v using V.ind with
  | h k n s b l ih =>
    intro f d hf hv
    have hb : 65538 ≤ bnd f d := by cases f <;> simp [bnd]
    rw [ofV]
    split
    · rw [sz]; omega
    · split
      · rw [sz]; split <;> omega
      · split
        · rw [sz]; omega
        · split
          · rw [sz]
            split
            · omega
            · rename_i hc
              rw [ofVs_map, List.length_map] at hc
              rw [fewV, Bool.and_eq_true, fewVs_all, List.all_eq_true] at hv
              obtain ⟨h1, h2⟩ := hv
              simp at h1
              obtain ⟨f', rfl⟩ : ∃ f', f = f' + 1 := ⟨f - 1, by omega⟩
              have hs : ∀ r : List V, (∀ x ∈ r, x ∈ l) → szs (ofVs r) (d + 1) ≤ r.length * bnd f' (d + 1) := by
                intro r
                induction r with
                | nil => intro _; simp [ofVs, szs]
                | cons x r ihr =>
                  intro hr
                  rw [ofVs, szs, List.length_cons, Nat.succ_mul]
                  have := ih x (hr x (by simp)) f' (d + 1) (by omega) (h2 x (hr x (by simp)))
                  have := ihr (fun y hy => hr y (by simp [hy]))
                  omega
              have h3 := hs l (fun x hx => hx)
              have h4 : l.length * bnd f' (d + 1) ≤ (if d ≤ 1 then 255 else 5) * bnd f' (d + 1) := Nat.mul_le_mul_right _ (by split <;> omega)
              rw [bnd]
              omega
          · rw [sz]; omega
theorem bnd_mono : ∀ (f d : Nat), bnd f (d + 1) ≤ bnd (f + 1) d
  | 0, d => by simp [bnd]
  | f + 1, d => by
    rw [bnd, bnd]
    have := bnd_mono f (d + 1)
    split <;> split <;> omega
end Go.Own

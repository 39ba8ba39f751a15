/- A value's bytes behind others; Print: by contract. No condition but the sizes. -/
import Derived.Test.YtncbgonanoihfaaC4
import Derived.Test.YtncbgonanoihfaaTA
namespace Go.Proofs.Ytncbgonanoihfaa
open Go.RowKit Go.Own
/-- A list's parts. -/
structure PartsA (w : World) (S : Nat → Prop) (v : Value) (l : List A) (p : Option Addr) (cap : Nat) : Prop where
  eq : v = .iface 48 (.slice p l.length cap)
  hle : l.length ≤ 9223372036854775807
  sub : ∀ (j : Nat) (x : A), l[j]? = some x → ∃ b o u, p = some ⟨b, o, none⟩ ∧ S b ∧ b < w.heap.size ∧ w.cell? ⟨b, o + j, none⟩ = some u ∧ AAt w S u x
theorem AAt.parts {w : World} {S : Nat → Prop} {v : Value} {l : List A} (h : AAt w S v (.list l)) : ∃ p cap, PartsA w S v l p cap := by
  cases h with
  | nil => exact ⟨Option.none, 0, rfl, by simp, fun j x hx => by simp at hx⟩
  | list b o n cap _ U hn hS hb hle hm hc ha =>
    subst hn
    exact ⟨some ⟨b, o, Option.none⟩, cap, rfl, by omega, fun j x hx => ⟨b, o, U j, rfl, hS, hb, hc j x hx, ha j x hx⟩⟩
/-- What 'printed' does with a. -/
def PrintsB (a : A) : Prop := ∀ (d : Nat) (v vo : Value) (l : List Nat) (B : Nat) (w : World), d ≤ 8 → B ≤ w.heap.size → HasB w B v a → OwnB w B vo l → l.length + sz a d ≤ 140737488355328 →
  Calls Try.prog 25 #[vo, v, .int .i64 (d : Int)] w (PrQ B (er a d) (l ++ pr a) w)
theorem prs_snoc {l : List A} {j : Nat} {x : A} (h : l[j]? = some x) : prs (l.take (j + 1)) = prs (l.take j) ++ pr x := by
  rw [List.take_add_one, h, prs_app]; simp [prs]
theorem szs_le {l : List A} {j : Nat} {x : A} (h : l[j]? = some x) (d : Nat) : szs (l.take j) d + sz x d ≤ szs l d := by
  have e : szs (l.take (j + 1)) d = szs (l.take j) d + sz x d := by
    rw [List.take_add_one, h, szs_app]; simp [szs]
  have e2 : szs l d = szs (l.take (j + 1)) d + szs (l.drop (j + 1)) d := by rw [← szs_app, List.take_append_drop]
  omega
theorem ers_snoc {l : List A} {j : Nat} {x : A} {d : Nat} (h : l[j]? = some x) (h0 : ers (l.take j) d = 0) (hx : er x d = 0) : ers (l.take (j + 1)) d = 0 := by
  rw [List.take_add_one, h, ers_app_ok h0]
  simp [ers, hx]
theorem ers_stop {l : List A} {j : Nat} {x : A} {d : Nat} (h : l[j]? = some x) (h0 : ers (l.take j) d = 0) (hx : er x d ≠ 0) : ers l d = er x d := by
  have hj := (List.getElem?_eq_some_iff.1 h).1
  have hx2 := (List.getElem?_eq_some_iff.1 h).2
  have e : l.take j ++ x :: l.drop (j + 1) = l := by
    rw [← hx2, List.getElem_cons_drop, List.take_append_drop]
  rw [← e, ers_app_ok h0, ers, if_neg hx]
theorem prs_len {l : List A} {d : Nat} (h : ers l d = 0) : (prs l).length = szs l d := by
  rw [prs_map, szs_map, List.length_flatMap]
  congr 1
  exact List.map_congr_left fun x hx => pr_sz x d ((ers_zero l d).1 h x hx)
set_option maxRecDepth 100000 in
set_option maxHeartbeats 1000000 in
theorem plist_any (xs : List A) (ih : ∀ x ∈ xs, PrintsB x) (d : Nat) (p : Option Addr) (n c : Nat) (vo : Value) (l : List Nat) (B : Nat) (w : World) (hd : d ≤ 8) (hB : B ≤ w.heap.size) (hn : xs.length = n) (hv : HasB w B (.iface 48 (.slice p n c)) (.list xs)) (ho : OwnB w B vo l)
    (hl : l.length + sz (.list xs) d ≤ 140737488355328) : Calls Try.prog 39 #[vo, .slice p n c, .int .i64 ((d : Int) + 1)] w (PrQ B (er (.list xs) d) (l ++ pr (.list xs)) w) := by
  obtain ⟨p', c', hp⟩ := AAt.parts hv
  obtain ⟨heq, hle, hsub⟩ := hp
  simp only [Value.iface.injEq, Value.slice.injEq, true_and] at heq
  obtain ⟨rfl, hnn, rfl⟩ := heq
  clear hnn
  rw [hn] at hle
  have hcs : (255 < n) ∨ (n ≤ 255 ∧ 8 ≤ d) ∨ (n ≤ 255 ∧ d < 8) := by omega
  rcases hcs with h | ⟨h, h2⟩ | ⟨h, h2⟩
  · have HE : Hid (er (.list xs) d = 3) := Lib.hid (by rw [er, if_pos (by omega)])
    have d1 : decide ((255 : Int) < (n : Int)) = true := by simp; omega
    clear hv ho hsub ih hn
    go_enter Try.func39, Try.ntmps39
    go_wp2
    go_ret2
    rw [HE.out]
    exact PrQ.bad (by decide) (Below.refl _ _)
  · have HE : Hid (er (.list xs) d = 3) := Lib.hid (by rw [er, if_pos (by omega)])
    have d1 : decide ((255 : Int) < (n : Int)) = false := by simp; omega
    have d2 : decide ((8 : Int) < (d : Int) + 1) = true := by simp; omega
    clear hv ho hsub ih hn
    go_enter Try.func39, Try.ntmps39
    go_wp2
    go_ret2
    rw [HE.out]
    exact PrQ.bad (by decide) (Below.refl _ _)
  · have hc : ¬ (255 < xs.length ∨ 8 ≤ d) := by omega
    have HE : Hid (er (.list xs) d = ers xs (d + 1)) := Lib.hid (by rw [er, if_neg hc])
    rw [sz, if_neg hc] at hl
    have d1 : decide ((255 : Int) < (n : Int)) = false := by simp; omega
    have d2 : decide ((8 : Int) < (d : Int) + 1) = false := by simp; omega
    have HN := Lib.hid hn
    have HO := Lib.hid ho
    have HSUB := Lib.hid hsub
    have HI := Lib.hid ih
    have HH := Lib.hid (fun (L : List Nat) (hL : L.length + 1 ≤ 140737488355328) v B w hB hv => high_any 1 n (by omega) (by omega) L hL v B w hB hv)
    clear hv ho hsub ih hn hc
    go_enter Try.func39, Try.ntmps39
    go_wp2_with (at_builtin; refine wpList_byte rfl (.tmp 18) (.tmp 19) rfl w B _ l 108 rfl rfl HO.out rfl (by omega) hB ?_)
    intro v1 w1 hv1 hb1
    have HO1 := Lib.hid hv1
    have HB1 := Lib.hid hb1
    clear hv1 hb1
    go_wp2_with (go_at_call 37; fail)
    refine (HH.out _ (by simp; omega) _ _ _ (Nat.le_trans hB HB1.out.size) HO1.out).mono ?_
    rintro e w2 ⟨v2, rfl, hv2, hb2⟩
    have HO2 := Lib.hid hv2
    have HB2 := Lib.hid (HB1.out.trans hb2)
    clear hv2 hb2
    go_wp2
    go_loopw [0, 27] (fun o i wr => ∃ j : Nat, j ≤ n ∧ i = .int .i64 (j : Int) ∧ Hid (OwnB wr B o (l ++ [108] ++ be 1 n ++ prs (xs.take j))) ∧ Hid (Below B w wr) ∧ Hid (ers (xs.take j) (d + 1) = 0)) (fun _ i _ => n - (intOf i).toNat)
    case atStart => exact ⟨0, Nat.zero_le _, rfl, Lib.hid (by simpa [prs] using HO2.out), HB2, Lib.hid (by simp [ers])⟩
    case round =>
      obtain ⟨j, hj, rfl, HOJ, HBJ, HEJ⟩ := hrel
      have hBr : B ≤ wr.heap.size := Nat.le_trans hB HBJ.out.size
      by_cases hlt : j < n
      · obtain ⟨x, hx⟩ : ∃ x, xs[j]? = some x := ⟨_, List.getElem?_eq_getElem (by rw [HN.out]; exact hlt)⟩
        obtain ⟨b, o, t, rfl, hbB, hbw, c0, hxa⟩ := HSUB.out j x hx
        have c1 : wr.cell? ⟨b, o + j, none⟩ = some t := by rw [HBJ.out.cell (p := ⟨b, o + j, none⟩) hbB]; exact c0
        have hlen : (l ++ [108] ++ be 1 n ++ prs (xs.take j)).length = l.length + 2 + szs (xs.take j) (d + 1) := by
          rw [List.length_append, prs_len HEJ.out]; simp [be_length]
        have hle2 := szs_le hx (d + 1)
        have HC := Lib.hid (HI.out x (List.mem_of_getElem? hx) (d + 1) t u0 _ B wr (by omega) hBr (HasB.below hxa HBJ.out) HOJ.out (by rw [hlen]; omega))
        have e1 : (((d + 1 : Nat)) : Int) = (d : Int) + 1 := by omega
        rw [e1] at HC
        have HPS := Lib.hid (prs_snoc hx)
        by_cases hex : er x (d + 1) = 0
        · have HES := Lib.hid (ers_snoc hx HEJ.out hex)
          rw [hex] at HC
          clear hx c0 hxa hlen hle2 e1 hex
          go_wp2_with (go_at_call 25; fail)
          refine HC.out.mono ?_
          intro e w3 hpq
          rcases hpq with ⟨_, v3, rfl, hv3, hb3⟩ | ⟨hne, _⟩
          · have HO3 : Hid (OwnB w3 B v3 (l ++ [108] ++ be 1 n ++ prs (xs.take (j + 1)))) := Lib.hid (by rw [HPS.out, ← List.append_assoc]; exact hv3)
            have HB3 := Lib.hid (HBJ.out.trans hb3)
            clear hv3 hb3
            go_wp2
            go_roundw
            case rel => exact ⟨j + 1, by omega, by go_num, HO3, HB3, HES⟩
            case measure => simp [intOf]; omega
          · exact absurd rfl hne
        · have HST := Lib.hid (ers_stop hx HEJ.out hex)
          obtain ⟨z, hz⟩ : ∃ z, er x (d + 1) = z := ⟨_, rfl⟩
          rw [hz] at HC HST hex
          have hzb : (z == 0) = false := by simpa using hex
          have hzb2 : (z != 0) = true := by simpa using hex
          have HZ := Lib.hid hex
          clear hx c0 hxa hlen hle2 e1 hex hz
          go_wp2_with (go_at_call 25; fail)
          refine HC.out.mono ?_
          intro e w3 hpq
          rcases hpq with ⟨h0, _⟩ | ⟨_, rfl, hb3⟩
          · exact absurd h0 HZ.out
          · have HB3 := Lib.hid (HBJ.out.trans hb3)
            clear hb3
            go_wp2
            go_ret2
            rw [HE.out, HST.out]
            exact PrQ.bad HZ.out HB3.out
      · obtain rfl : j = n := by omega
        have hfull : xs.take j = xs := List.take_of_length_le (by rw [HN.out]; exact Nat.le_refl _)
        have HO3 : Hid (OwnB wr B u0 (l ++ pr (.list xs))) := Lib.hid (by
          have h := HOJ.out
          rw [hfull] at h
          rw [pr, HN.out]
          simpa using h)
        have HE0 : Hid (ers xs (d + 1) = 0) := Lib.hid (by have h := HEJ.out; rwa [hfull] at h)
        clear hfull
        go_wp2
        go_ret2
        rw [HE.out, HE0.out]
        exact PrQ.ok HO3.out HBJ.out
theorem u64_wrap (n : Int) : IntKind.u64.wrap n = ((u64 n : Nat) : Int) := by
  unfold u64 two64
  simp [IntKind.wrap, IntKind.bits, IntKind.signed]
  omega
set_option maxRecDepth 100000 in
set_option maxHeartbeats 1000000 in
theorem printed_any (a : A) : PrintsB a := by
  induction a using A.ind with
  | h1 n =>
    intro d v vo l B w hd hB hv ho hl
    cases hv
    rename_i hn
    rw [sz] at hl
    have HE : Hid (er (.num n) d = 0) := Lib.hid rfl
    have HO := Lib.hid ho
    have HU := Lib.hid (u64_wrap n)
    clear ho hn
    go_enter Try.func25, Try.ntmps25
    go_wp2_with (at_builtin; refine wpList_byte rfl (.tmp 16) (.tmp 17) rfl w B _ l 105 rfl rfl HO.out rfl (by omega) hB ?_)
    intro v1 w1 hv1 hb1
    have HO1 := Lib.hid hv1
    have HB1 := Lib.hid hb1
    clear hv1 hb1
    have hlt := u64_lt n
    unfold two64 at hlt
    have HC := Lib.hid (high_any 8 (u64 n) (by omega) hlt (l ++ [105]) (by simp; omega) v1 B w1 (Nat.le_trans hB HB1.out.size) HO1.out)
    rw [← HU.out] at HC
    clear hlt
    go_wp2_with (go_at_call 37; fail)
    refine HC.out.mono ?_
    rintro e w2 ⟨v2, rfl, hv2, hb2⟩
    have HO2 : Hid (OwnB w2 B v2 (l ++ pr (.num n))) := Lib.hid (by simpa [pr] using hv2)
    have HB2 := Lib.hid (HB1.out.trans hb2)
    clear hv2 hb2
    go_wp2
    go_ret2
    rw [HE.out]
    exact PrQ.ok HO2.out HB2.out
  | h2 s =>
    intro d v vo l B w hd hB hv ho hl
    cases hv
    rename_i hs
    have hl : l.length + sz (.str s) 0 ≤ 140737488355328 := by rw [sz] at hl ⊢; exact hl
    have HC := Lib.hid (ptext_any s hs l hl vo B w hB ho)
    have HE : Hid (er (.str s) d = er (.str s) 0) := Lib.hid (by rw [er, er])
    obtain ⟨z, hz⟩ : ∃ z, er (.str s) 0 = z := ⟨_, rfl⟩
    rw [hz] at HC HE
    clear ho hl hz
    go_enter Try.func25, Try.ntmps25
    go_wp2_with (go_at_call 38; fail)
    refine HC.out.mono ?_
    intro e w2 hpq
    rcases hpq with ⟨rfl, v3, rfl, hv3, hb3⟩ | ⟨hne, rfl, hb3⟩
    · have HO3 := Lib.hid hv3
      have HB3 := Lib.hid hb3
      clear hv3 hb3
      go_wp2
      go_ret2
      rw [HE.out]
      exact PrQ.ok HO3.out HB3.out
    · have HN := Lib.hid hne
      have HB3 := Lib.hid hb3
      clear hne hb3
      go_wp2
      go_ret2
      rw [HE.out]
      exact PrQ.bad HN.out HB3.out
  | h3 b =>
    intro d v vo l B w hd hB hv ho hl
    cases hv
    rw [sz] at hl
    have HE : Hid (er (.bool b) d = 0) := Lib.hid rfl
    have HO := Lib.hid ho
    clear ho
    cases b
    · go_enter Try.func25, Try.ntmps25
      go_wp2_with (at_builtin; refine wpList_byte rfl (.tmp 37) (.tmp 38) rfl w B _ l 110 rfl rfl HO.out rfl (by omega) hB ?_)
      intro v1 w1 hv1 hb1
      have HO1 : Hid (OwnB w1 B v1 (l ++ pr (.bool false))) := Lib.hid (by simpa [pr] using hv1)
      have HB1 := Lib.hid hb1
      clear hv1 hb1
      go_wp2
      go_ret2
      rw [HE.out]
      exact PrQ.ok HO1.out HB1.out
    · go_enter Try.func25, Try.ntmps25
      go_wp2_with (at_builtin; refine wpList_byte rfl (.tmp 34) (.tmp 35) rfl w B _ l 121 rfl rfl HO.out rfl (by omega) hB ?_)
      intro v1 w1 hv1 hb1
      have HO1 : Hid (OwnB w1 B v1 (l ++ pr (.bool true))) := Lib.hid (by simpa [pr] using hv1)
      have HB1 := Lib.hid hb1
      clear hv1 hb1
      go_wp2
      go_ret2
      rw [HE.out]
      exact PrQ.ok HO1.out HB1.out
  | h4 xs ih =>
    intro d v vo l B w hd hB hv ho hl
    obtain ⟨p, c, hp⟩ := AAt.parts hv
    obtain ⟨rfl, _, _⟩ := hp
    obtain ⟨n, hn⟩ : ∃ n, xs.length = n := ⟨_, rfl⟩
    rw [hn] at hv ⊢
    have HC := Lib.hid (plist_any xs ih d p n c vo l B w hd hB hn hv ho hl)
    obtain ⟨z, hz⟩ : ∃ z, er (.list xs) d = z := ⟨_, rfl⟩
    obtain ⟨t, ht⟩ : ∃ t, l ++ pr (.list xs) = t := ⟨_, rfl⟩
    rw [hz, ht] at HC ⊢
    clear hv ho hl hz ht ih hn
    go_enter Try.func25, Try.ntmps25
    go_wp2_with (go_at_call 39; fail)
    refine HC.out.mono ?_
    intro e w2 hpq
    rcases hpq with ⟨rfl, v3, rfl, hv3, hb3⟩ | ⟨hne, rfl, hb3⟩
    · have HO3 := Lib.hid hv3
      have HB3 := Lib.hid hb3
      clear hv3 hb3
      go_wp2
      go_ret2
      exact PrQ.ok HO3.out HB3.out
    · have HN := Lib.hid hne
      have HB3 := Lib.hid hb3
      clear hne hb3
      go_wp2
      go_ret2
      exact PrQ.bad HN.out HB3.out
  | h5 =>
    intro d v vo l B w hd hB hv ho hl
    cases hv
    have HE : Hid (er .none d = 9) := Lib.hid rfl
    clear ho hl
    go_enter Try.func25, Try.ntmps25
    go_wp2
    go_ret2
    rw [HE.out]
    exact PrQ.bad (by decide) (Below.refl _ _)
  | h6 =>
    intro d v vo l B w hd hB hv ho hl
    cases hv
    have HE : Hid (er .odd d = 9) := Lib.hid rfl
    clear ho hl
    go_enter Try.func25, Try.ntmps25
    go_wp2
    go_ret2
    rw [HE.out]
    exact PrQ.bad (by decide) (Below.refl _ _)
/-- A value's bytes, or nothing. -/
def prt (a : A) : ByteArray := if er a 0 = 0 then mkS (pr a) else { data := #[] }
def PrintQ (a : A) (w : World) (e : Ending) (w' : World) : Prop := e = .returned (.tuple #[.string (prt a), .int .i64 (er a 0)]) ∧ Below w.heap.size w w'
set_option maxRecDepth 100000 in
set_option maxHeartbeats 1000000 in
theorem print_any (a : A) (v : Value) (w : World) (hv : Has w v a) (hs : sz a 0 ≤ 140737488355328) : Calls Try.prog 9 #[v] w (PrintQ a w) := by
  have HC := Lib.hid (printed_any a 0 v (.slice none 0 0) [] w.heap.size w (by omega) (Nat.le_refl _) hv.low (OwnB.nil _ _) (by simpa using hs))
  have HP1 : er a 0 = 0 → prt a = mkS (pr a) := fun h => by rw [prt, if_pos h]
  have HP2 : er a 0 ≠ 0 → prt a = { data := #[] } := fun h => by rw [prt, if_neg h]
  have H1 := Lib.hid HP1
  have H2 := Lib.hid HP2
  unfold PrintQ
  obtain ⟨z, hz⟩ : ∃ z, er a 0 = z := ⟨_, rfl⟩
  obtain ⟨t, ht⟩ : ∃ t, prt a = t := ⟨_, rfl⟩
  rw [hz] at HC H1 H2 ⊢
  rw [ht] at H1 H2 ⊢
  clear hv hs HP1 HP2 hz ht
  go_enter Try.func9, Try.ntmps9
  go_wp2_with (go_at_call 25; fail)
  refine HC.out.mono ?_
  intro e w2 hpq
  rcases hpq with ⟨rfl, v3, rfl, hv3, hb3⟩ | ⟨hne, rfl, hb3⟩
  · have hcv := OwnB.str hv3
    have HB3 := Lib.hid hb3
    have HT := H1.out rfl
    clear hv3 hb3 H2
    go_wp2
    go_ret2
    exact ⟨by rw [HT]; rfl, HB3.out⟩
  · have HT := H2.out hne
    have HB3 := Lib.hid hb3
    have hcv := conv_nil w2
    clear hne hb3 H1
    go_wp2
    go_ret2
    exact ⟨by rw [HT]; rfl, HB3.out⟩
end Go.Proofs.Ytncbgonanoihfaa

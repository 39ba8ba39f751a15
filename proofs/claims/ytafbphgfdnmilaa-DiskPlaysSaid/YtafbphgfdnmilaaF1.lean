/- The document's fill, Arm, Image, Read: by contract. No condition but that texts are small. -/
import Derived.Test.YtafbphgfdnmilaaRk
namespace Go.Proofs.Ytafbphgfdnmilaa
open Go.RowKit Go.Own

theorem rep_succ (j : Nat) : rep j ++ [0] = rep (j + 1) := by
  unfold rep
  rw [List.replicate_succ']
theorem fil_rep (S : List Nat) : filL S = S ++ rep (64 - S.length) := by
  unfold filL spl rep
  rw [List.take_zero, List.nil_append, List.drop_replicate, Nat.zero_add]
attribute [-go_sem] run_string_add_if
theorem fill_any (S : List Nat) (h : S.length ≤ 64) (w : World) : Calls Try.prog 26 #[.string (mkS S)] w fun e w' => e = .returned (.string (mkS (filL S))) ∧ w' = w := by
  have HF := Lib.hid (fil_rep S)
  obtain ⟨n, hn⟩ : ∃ n, S.length = n := ⟨_, rfl⟩
  have HN := Lib.hid hn
  rw [hn] at HF h
  clear hn
  go_enter Try.func26, Try.ntmps26
  go_wp2
  go_loop [0] (fun x => ∃ j : Nat, n + j ≤ 64 ∧ x = .string (mkS (S ++ rep j))) (fun x => match x with | .string y => 64 - y.size | _ => 0)
  case atStart => exact ⟨0, by omega, by rw [show rep 0 = [] from rfl, List.append_nil]⟩
  case round =>
    obtain ⟨j, hj, rfl⟩ := hrel
    have hsz : (mkS (S ++ rep j)).size = n + j := by rw [mkS_size, List.length_append, HN.out, rep_length]
    by_cases hlt : n + j < 64
    · have hadd : ∀ W, (Op.stringOp .add (mkS (S ++ rep j)) { data := #[0] }).run Try.prog W = .ok (.string (mkS (S ++ rep (j + 1)))) W := fun W => by
        have h2 := mkS_add (P := Try.prog) (W := W) (S ++ rep j) [0] (by rw [← mkS_size, hsz]; show _ + 1 ≤ _; omega)
        rw [List.append_assoc, rep_succ] at h2
        exact h2
      have HS2 := Lib.hid (show (mkS (S ++ rep (j + 1))).size = n + (j + 1) by rw [mkS_size, List.length_append, HN.out, rep_length])
      have HSZ := Lib.hid hsz
      have hlt' : (n : Int) + j < 64 := by omega
      go_wp2
      go_round
      case rel => exact ⟨j + 1, by omega, rfl⟩
      case measure =>
        show 64 - (mkS (S ++ rep (j + 1))).size < 64 - (mkS (S ++ rep j)).size
        rw [HS2.out, HSZ.out]; omega
    · have hlt' : ¬ (n : Int) + j < 64 := by omega
      have HE := Lib.hid (show mkS (S ++ rep j) = mkS (filL S) by rw [HF.out, show 64 - n = j by omega])
      go_wp2
      go_ret
      exact ⟨by rw [← HE.out]; rfl, rfl⟩
attribute [local go_sem] ldR ldR0 ldR1 ldR2 ldR3 ldR4 ldR5 ldR6 stR stR0 stR1 stR2 stR5 stR5z stR6 z35 al35 set_same app_left set_left at_mid' set_mid' at_mid2' set_mid2' List.getElem?_set_ne

/-- Nothing but new blocks. -/
def ExtW (w : World) (l : List Obj) (w' : World) : Prop := ∃ l' d', w' = Wd w l' d' ∧ Ext l l'
/-- The document's disk R' is returned, and nothing but new blocks are there. -/
def RetR (A : Nat → Prop) (w : World) (l : List Obj) (R' : Rk) (mk : Value → Value) (e : Ending) (w' : World) : Prop :=
  ∃ vl vw l' d', e = .returned (mk (.agg (rc vl vw R'))) ∧ w' = Wd w l' d' ∧ Ext l l' ∧ RAt A w l' vl vw R'
set_option maxRecDepth 100000 in
theorem armR_any (w : World) (l : List Obj) (d : Nat) (A : Nat → Prop) (vl vw : Value) (R : Rk) (h : RAt A w l vl vw R) (a : Int) (k : Nat) (t : Int) :
    Calls Try.prog 18 #[.agg (rc vl vw R), .agg (kc a k t)] (Wd w l d) (RetR A w l (R.arm a k t) fun v => v) := by
  have h1 := RowV.one h.lasts
  have h2 := RowV.one h.wait
  have H := Lib.hid h
  clear h
  by_cases h0 : a < 1
  · have e := Lib.hid (show R.arm a k t = { R with cat := 0, keep := 0, torn := 0, count := 0 } by unfold Rk.arm armA armK armT; rw [if_pos h0, if_pos h0, if_pos h0])
    go_enter Try.func18, Try.ntmps18
    go_wp2
    refine ret_mix (i := l.length + 2) rfl rfl ag35 (at_third rfl) rfl rfl ?_
    rw [e.out]
    exact ⟨vl, vw, _, _, rfl, rfl, Ext.app _ _, ⟨H.out.lasts.more _, H.out.wait.more _, ⟨H.out.ok.lastO, H.out.ok.waitO⟩⟩⟩
  · have e := Lib.hid (show R.arm a k t = { R with cat := a, keep := k, torn := t, count := 0 } by unfold Rk.arm armA armK armT; rw [if_neg h0, if_neg h0, if_neg h0])
    go_enter Try.func18, Try.ntmps18
    go_wp2
    refine ret_mix (i := l.length + 2) rfl rfl ag35 (at_third rfl) rfl rfl ?_
    rw [e.out]
    exact ⟨vl, vw, _, _, rfl, rfl, Ext.app _ _, ⟨H.out.lasts.more _, H.out.wait.more _, ⟨H.out.ok.lastO, H.out.ok.waitO⟩⟩⟩

/-- A slice of a row that is read: its address, and its cells. -/
theorem RowV.form {A : Nat → Prop} {w : World} {l : List Obj} {sz n : Nat} {v : Value} {C : List Value} (h : RowV A w l sz n v C) :
    ∃ po c, v = .slice po n c ∧ (0 < n → ∃ i X t, A i ∧ po = some ⟨w.heap.size + i, 0, none⟩ ∧ l[i]? = some (.cells (List.toArray X) t (0, 0)) ∧ X.length = c * sz ∧ n ≤ c ∧ X.take (n * sz) = C) := by
  rcases h with ⟨h1, h2, h3⟩ | ⟨i, c, X, t, hA, h1, h2⟩
  · subst h2
    exact ⟨none, 0, h1, fun h => by omega⟩
  · exact ⟨_, c, h1, fun _ => ⟨i, X, t, hA, rfl, h2⟩⟩
/-- A string of a row. -/
theorem ld_str {w : World} {L : List Obj} {D j k n : Nat} {X : List Value} {x : List (List Nat)} {s : List Nat} {tj : TypeId} (hj : L[j]? = some (.cells X.toArray tj (0, 0)))
    (hX : X.take (n * 1) = lcs x) (hn : k < n) (hk : x[k]? = some s) : ldX Try.prog 9 none (some (.cells X.toArray tj (0, 0))) (w.heap.size + j) k (Wd w L D) = .ok (.string (mkS s)) (Wd w L D) := by
  refine ldX_mix1 (isa9 _) (by rw [blk_at]; exact hj) ?_
  rw [List.getElem?_toArray]
  have : (X.take (n * 1))[k]? = some (.string (mkS s)) := by rw [hX, lcs, List.getElem?_map, hk]; rfl
  rwa [List.getElem?_take_of_lt (by omega)] at this
set_option maxRecDepth 100000 in
set_option maxHeartbeats 1000000 in
theorem imageR_any (w : World) (l : List Obj) (d : Nat) (A : Nat → Prop) (vl vw : Value) (R : Rk) (h : RAt A w l vl vw R) (hs : R.lasts.length ≤ 4096) :
    Calls Try.prog 25 #[.agg (rc vl vw R)] (Wd w l d) fun e w' => e = .returned (.string (mkS R.lasts.flatten)) ∧ ExtW w l w' := by
  obtain ⟨po, c, rfl, hpo⟩ := RowV.form h.lasts
  have HP := Lib.hid hpo
  have HO := Lib.hid h.ok.lastO
  clear h hpo
  obtain ⟨n, hn⟩ : ∃ n, R.lasts.length = n := ⟨_, rfl⟩
  rw [hn] at hs HP ⊢
  have HN := Lib.hid hn
  clear hn
  go_enter Try.func25, Try.ntmps25
  go_wp2
  go_loop [3, 4] (fun s x => ∃ k : Nat, k ≤ n ∧ x = .int .i64 k ∧ s = .string (mkS (R.lasts.take k).flatten)) (fun _ x => n - (intOf x).toNat)
  case atStart => exact ⟨0, by omega, rfl, rfl⟩
  case round =>
    obtain ⟨k, hk, rfl, rfl⟩ := hrel
    by_cases hlt : k < n
    · obtain ⟨s, hs1⟩ : ∃ s, R.lasts[k]? = some s := ⟨R.lasts[k]'(by rw [HN.out]; exact hlt), List.getElem?_eq_getElem _⟩
      obtain ⟨i, X, t, _, rfl, hi, _, _, hX⟩ := HP.out (by omega)
      have hld : ∀ L D, L[i]? = some (Obj.cells X.toArray t (0, 0)) → ldX Try.prog 9 none (some (Obj.cells X.toArray t (0, 0))) (w.heap.size + i) k (Wd w L D) = .ok (.string (mkS s)) (Wd w L D) := fun L D hL => ld_str hL hX hlt hs1
      have HST : Hid ((R.lasts.take (k + 1)).flatten = (R.lasts.take k).flatten ++ s) := Lib.hid (by
        have hk' := List.getElem?_eq_some_iff.1 hs1
        rw [List.take_succ_eq_append_getElem hk'.1, List.flatten_append, hk'.2]; simp)
      have hb : ∀ y : List (List Nat), (∀ x ∈ y, x.length = 64) → y.flatten.length = y.length * 64 := fun y => by
        induction y with
        | nil => intro _; rfl
        | cons a y ih => intro hy; rw [List.flatten_cons, List.length_append, ih (fun x hx => hy x (by simp [hx])), hy a (by simp), List.length_cons, Nat.add_mul]; omega
      have hlen : ((R.lasts.take k).flatten).length = k * 64 := by
        rw [hb _ (fun x hx => (HO.out x (List.mem_of_mem_take hx)).1), List.length_take, HN.out, Nat.min_eq_left (by omega)]
      have hsl := (HO.out s (List.mem_of_getElem? hs1)).1
      have hadd : ∀ W, (Op.stringOp .add (mkS (R.lasts.take k).flatten) (mkS s)).run Try.prog W = .ok (.string (mkS (R.lasts.take (k + 1)).flatten)) W := fun W => by
        rw [HST.out]
        exact mkS_add _ _ (by rw [hlen, hsl]; omega)
      clear hs1 hX hb hlen hsl
      go_wp2
      go_round
      case rel => exact ⟨k + 1, by omega, by go_num, rfl⟩
      case measure => simp [intOf]; omega
    · obtain rfl : k = n := by omega
      have HE := Lib.hid (show R.lasts.take k = R.lasts by rw [List.take_of_length_le (by rw [HN.out]; exact Nat.le_refl _)])
      go_wp2
      go_ret
      exact ⟨by rw [HE.out]; rfl, _, _, rfl, Ext.app _ _⟩
end Go.Proofs.Ytafbphgfdnmilaa

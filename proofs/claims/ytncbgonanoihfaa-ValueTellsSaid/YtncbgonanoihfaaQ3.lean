/- A list that is found, and its copy: by contract. No condition but the lists' sizes. -/
import Derived.Test.YtncbgonanoihfaaQ2
import Derived.Test.YtncbgonanoihfaaP3
namespace Go.Own
mutual
/-- Its lists are short. -/
def smA : A → Prop
  | .list l => l.length ≤ 1000 ∧ smAs l
  | _ => True
def smAs : List A → Prop
  | [] => True
  | x :: r => smA x ∧ smAs r
end
theorem smAs_all : ∀ l, smAs l ↔ ∀ x ∈ l, smA x
  | [] => by simp [smAs]
  | x :: r => by rw [smAs, smAs_all r]; simp
theorem sm_of_er (a : A) (d : Nat) (h : er a d = 0) : smA a := by
  induction a using A.ind generalizing d with
  | h4 l ih =>
    rw [er] at h
    split at h
    · cases h
    · rename_i hc
      exact ⟨by omega, (smAs_all l).2 fun x hx => ih x hx (d + 1) ((ers_zero l _).1 h x hx)⟩
  | _ => trivial
theorem sm_none : smA .none := trivial
theorem sm_cm : ∀ (zs : List Int) (a : A), smA a → smA (cm a zs).2
  | [], a, h => by rw [cm_nil]; exact h
  | i :: r, a, h => by
    by_cases hb : ∀ l, a ≠ .list l
    · rw [cm_other a hb]; exact trivial
    · obtain ⟨l, rfl⟩ : ∃ l, a = .list l := by
        cases a with
        | list l => exact ⟨l, rfl⟩
        | _ => exact absurd (fun l h => by cases h) hb
      rw [cm_list]
      split
      · exact trivial
      · refine sm_cm r _ ?_
        simp only [List.getD_eq_getElem?_getD]
        cases hx : l[i.toNat]? with
        | none => exact trivial
        | some x => exact (smAs_all l).1 h.2 x (List.mem_of_getElem? hx)
end Go.Own
namespace Go.Proofs.Ytncbgonanoihfaa
open Go.RowKit Go.Own
theorem sm_of_few (v : V) (d : Nat) (h : fewV v d = true) : smA (ofV v) := by
  induction v using V.ind generalizing d with
  | h k n s b l ih =>
    obtain ⟨_, h2, h3⟩ := fewV_parts h
    rcases kinds k with rfl | rfl | rfl | rfl | hk
    · rw [show ofV (.mk 1 n s b l) = .num n by simp [ofV]]; exact trivial
    · rw [show ofV (.mk 2 n s b l) = .str s by simp [ofV]]; exact trivial
    · rw [show ofV (.mk 3 n s b l) = .bool b by simp [ofV]]; exact trivial
    · rw [show ofV (.mk 4 n s b l) = .list (l.map ofV) by simp [ofV, ofVs_map]]
      refine ⟨by rw [List.length_map]; omega, (smAs_all _).2 fun x hx => ?_⟩
      obtain ⟨y, hy, rfl⟩ := List.mem_map.1 hx
      exact ih y hy (d + 1) (h3 y hy)
    · rw [show ofV (.mk k n s b l) = .none by simp [ofV, hk]]; exact trivial
/-- The answer is the list l, in new memory. -/
def CopyQ (l : List A) (w : World) (e : Ending) (w' : World) : Prop := ∃ p c, e = .returned (.slice p l.length c) ∧ AAt w' (fun b => w.heap.size ≤ b) (.iface 48 (.slice p l.length c)) (.list l) ∧ Below w.heap.size w w'
def CopyB (a : A) : Prop := ∀ l, a = .list l → ∀ (v : Value) (w : World), Has w (.iface 48 v) (.list l) → Calls Try.prog 34 #[v] w (CopyQ l w)
theorem AAt.any {w : World} {S T : Nat → Prop} {v : Value} {a : A} (h : AAt w S v a) (hn : ∀ l, a ≠ .list l) : AAt w T v a := by
  cases h with
  | num n h => exact .num n h
  | str s h => exact .str s h
  | bool b => exact .bool b
  | none => exact .none
  | odd u => exact .odd u
  | nil => exact absurd rfl (hn _)
  | list => exact absurd rfl (hn _)
theorem a_cases (a : A) : (∀ l, a ≠ .list l) ∨ ∃ l, a = .list l := by
  cases a with
  | list l => exact Or.inr ⟨l, rfl⟩
  | _ => exact Or.inl (fun l h => by cases h)
set_option maxRecDepth 100000 in
set_option maxHeartbeats 1000000 in
theorem copied_list (l : List A) (ih : ∀ x ∈ l, CopyB x) (hl : l.length ≤ 1000) (v : Value) (w : World) (hv : Has w (.iface 48 v) (.list l)) : Calls Try.prog 34 #[v] w (CopyQ l w) := by
  obtain ⟨p, c, hp⟩ := AAt.parts hv
  obtain ⟨heq, _, hsub⟩ := hp
  simp only [Value.iface.injEq, true_and] at heq
  subst heq
  obtain ⟨n, hn⟩ : ∃ n, l.length = n := ⟨_, rfl⟩
  have HPOST : Hid (∀ e w', (∃ p c, e = .returned (.slice p n c) ∧ AAt w' (fun b => w.heap.size ≤ b) (.iface 48 (.slice p n c)) (.list l) ∧ Below w.heap.size w w') → CopyQ l w e w') := Lib.hid (fun e w' h => by unfold CopyQ; rw [hn]; exact h)
  rw [hn] at hl hv ⊢
  have HN := Lib.hid hn
  have HI := Lib.hid ih
  have HSUB := Lib.hid hsub
  clear hn hv ih hsub
  go_enter Try.func34, Try.ntmps34
  go_wp2_with (at_make; refine wpList_makeA rfl _ _ rfl w.heap.size .i64 .i64 (n : Int) n rfl rfl rfl (by omega) (Nat.le_refl _) ?_)
  intro v2 w2 hr2 hb2
  have HR2 := Lib.hid hr2
  have HB2 := Lib.hid hb2
  clear hr2 hb2
  go_wp2
  go_loopw [3, 13] (fun o i wr => ∃ j : Nat, j ≤ n ∧ i = .int .i64 (j : Int) ∧ Hid (RowA wr w.heap.size o (l.take j)) ∧ Hid (Below w.heap.size w wr)) (fun _ i _ => n - (intOf i).toNat)
  case atStart => exact ⟨0, Nat.zero_le _, rfl, Lib.hid (by simpa using HR2.out), HB2⟩
  case round =>
    obtain ⟨j, hj, rfl, HR, HB⟩ := hrel
    have hBr : w.heap.size ≤ wr.heap.size := HB.out.size
    by_cases hlt : j < n
    · obtain ⟨x, hx⟩ : ∃ x, l[j]? = some x := ⟨_, List.getElem?_eq_getElem (by rw [HN.out]; exact hlt)⟩
      obtain ⟨b, o, t, rfl, _, hbw, c0, hxa⟩ := HSUB.out j x hx
      have c1 : wr.cell? ⟨b, o + j, none⟩ = some t := by rw [HB.out.cell (p := ⟨b, o + j, none⟩) hbw]; exact c0
      have HX : Hid (Has wr t x) := Lib.hid (Has.below hxa.has HB.out)
      have HT := Lib.hid (take_snoc hx)
      have HIX := Lib.hid (HI.out x (List.mem_of_getElem? hx))
      have HLT : Hid ((l.take j).length ≤ 1000000) := Lib.hid (by rw [List.length_take]; omega)
      have hbl := HR.out.lt
      clear c0 hxa hx
      rcases a_cases x with hnl | ⟨l2, rfl⟩
      · have HV : Hid (AAt wr (fun b => w.heap.size ≤ b ∧ u3.ownBlock ≠ some b) t x) := Lib.hid (AAt.any HX.out hnl)
        have hsh := no_list HX.out hnl
        clear hnl hbl
        rcases hsh with ⟨ty, u, rfl, rfl | rfl | rfl | rfl⟩ | rfl
        all_goals
          go_wp2_with (at_builtin; refine wpList_push rfl (.tmp 26) (.tmp 28) rfl wr w.heap.size _ _ x _ rfl rfl HR.out HV.out rfl HLT.out hBr ?_)
          intro v4 w4 hr4 hb4
          have HR4 : Hid (RowA w4 w.heap.size v4 (l.take (j + 1))) := Lib.hid (by rw [HT.out]; exact hr4)
          have HB4 := Lib.hid (HB.out.trans hb4)
          clear hr4 hb4
          go_wp2
          go_roundw
          case rel => exact ⟨j + 1, by omega, by go_num, HR4, HB4⟩
          case measure => simp [intOf]; omega
      · obtain ⟨p2, c2, hp2⟩ := AAt.parts HX.out
        obtain ⟨heq2, _, _⟩ := hp2
        subst heq2
        have HC := Lib.hid (HIX.out l2 rfl (.slice p2 l2.length c2) wr HX.out)
        obtain ⟨n2, hn2⟩ : ∃ n2, l2.length = n2 := ⟨_, rfl⟩
        unfold CopyQ at HC
        rw [hn2] at HC c1
        have HBL := Lib.hid hbl
        clear hn2 hbl
        go_wp2_with (go_at_call 34; fail)
        refine HC.out.mono ?_
        rintro e w3 ⟨p3, c3, rfl, hv3, hb3⟩
        have HR3 := Lib.hid (HR.out.below hb3)
        have HB3 := Lib.hid (HB.out.trans (hb3.mono hBr))
        have HV : Hid (AAt w3 (fun b => w.heap.size ≤ b ∧ u3.ownBlock ≠ some b) (.iface 48 (.slice p3 n2 c3)) (.list l2)) := Lib.hid (hv3.keep (fun b hb _ => ⟨by omega, fun e => by have := (HBL.out b e).2; omega⟩) (Nat.le_refl _) (fun _ _ _ => rfl))
        have hB3 : w.heap.size ≤ w3.heap.size := HB3.out.size
        clear hv3 hb3
        go_wp2_with (at_builtin; refine wpList_push rfl (.tmp 26) (.tmp 28) rfl w3 w.heap.size _ _ (.list l2) _ rfl rfl HR3.out HV.out rfl HLT.out hB3 ?_)
        intro v4 w4 hr4 hb4
        have HR4 : Hid (RowA w4 w.heap.size v4 (l.take (j + 1))) := Lib.hid (by rw [HT.out]; exact hr4)
        have HB4 := Lib.hid (HB3.out.trans hb4)
        clear hr4 hb4
        go_wp2
        go_roundw
        case rel => exact ⟨j + 1, by omega, by go_num, HR4, HB4⟩
        case measure => simp [intOf]; omega
    · obtain rfl : j = n := by omega
      have HR1 : Hid (RowA wr w.heap.size u3 l) := Lib.hid (by have h := HR.out; rwa [List.take_of_length_le (by rw [HN.out]; exact Nat.le_refl _)] at h)
      obtain ⟨q, c2, rfl⟩ : ∃ q c, u3 = .slice q j c := by
        have h := HR1.out.shape
        rwa [HN.out] at h
      have HV := Lib.hid HR1.out.has
      go_wp2
      go_ret
      exact HPOST.out _ _ ⟨q, c2, rfl, HV.out, HB.out⟩
theorem copied_any (a : A) (hs : smA a) : CopyB a := by
  induction a using A.ind with
  | h4 l ih =>
    intro l' hl' v w hv
    cases hl'
    exact copied_list l (fun x hx => ih x hx ((smAs_all l).1 hs.2 x hx)) hs.1 v w hv
  | _ => intro l hl; cases hl
end Go.Proofs.Ytncbgonanoihfaa

/- Parse of a right grant's list, and of a text; few: by contract. No condition but the sizes. -/
import Derived.Test.YtfihbfkgkljjdaaGF
import Derived.Test.YtfihbfkgkljjdaaF1
namespace Go.Proofs.Ytfihbfkgkljjdaa
open Go.RowKit Go.Own Go.Own.Fr Go.Maps Go.WideMaps
set_option maxRecDepth 100000 in
theorem wpList_bz {ops : Array Oper} {rest : List Oper} {a : Act} {Q : Exit → Act → World → Prop} {w : World} {d : Nat} {ty : TypeId} {pos : String} {after : Array Edge}
    (h : wpList Try.prog ops Q rest (a.put (some d) (.agg #[.int .i64 0, .string { data := #[] }, .string { data := #[] }, .int .i64 0, .slice none 0 0, .bool false])) w) : wpList Try.prog ops Q ({ dst := some d, op := .build 29 #[], type := ty, pos := pos, after := after, guard := none } :: rest) a w := by
  refine wpList_plain rfl fun _ hK => ?_
  have hr : (execOp a.eval { dst := some d, op := .build 29 #[], type := ty, pos := pos, after := after, guard := none }).run Try.prog w = .ok (.value (.agg #[.int .i64 0, .string { data := #[] }, .string { data := #[] }, .int .i64 0, .slice none 0 0, .bool false])) w := by simp [execOp, go_sem]
  unfold Oper.wp
  rw [hr]
  exact hK _ _ h
theorem wpList_bz_put {ops : Array Oper} {rest : List Oper} {a : Act} {Q : Exit → Act → World → Prop} {w : World} {d x : Nat} {ty ty2 : TypeId} {pos pos2 : String} {after after2 : Array Edge} (g : Nat)
    (hx : (a.put (some d) (.agg #[.int .i64 0, .string { data := #[] }, .string { data := #[] }, .int .i64 0, .slice none 0 0, .bool false])).eval (.tmp x) = .pointer (some ⟨g, 0, none⟩)) (hy : (a.put (some d) (.agg #[.int .i64 0, .string { data := #[] }, .string { data := #[] }, .int .i64 0, .slice none 0 0, .bool false])).eval (.tmp d) = .agg #[.int .i64 0, .string { data := #[] }, .string { data := #[] }, .int .i64 0, .slice none 0 0, .bool false]) (hg : w.heap[g]? = some (.cells #[.int .i64 0, .string { data := #[] }, .string { data := #[] }, .int .i64 0, .slice none 0 0, .bool false] 29 (0, 0)))
    (h : ∀ w', w'.heap[g]? = some (.cells #[.int .i64 0, .string { data := #[] }, .string { data := #[] }, .int .i64 0, .slice none 0 0, .bool false] 29 (0, 0)) → w.grownBy w' (some g) → wpList Try.prog ops Q rest (a.put (some d) (.agg #[.int .i64 0, .string { data := #[] }, .string { data := #[] }, .int .i64 0, .slice none 0 0, .bool false])) w') :
    wpList Try.prog ops Q ({ dst := some d, op := .build 29 #[], type := ty, pos := pos, after := after, guard := none } :: { dst := none, op := .store 29 (.tmp x) (.tmp d), type := ty2, pos := pos2, after := after2, guard := none } :: rest) a w :=
  wpList_bz (wpList_put 29 g _ _ hx hy hg (by kernel_rfl) rfl (by simp [Value.oneCell']) h)
set_option maxRecDepth 100000 in
theorem read_text (s : ByteArray) (w : World) : Calls Try.prog 30 #[.iface 9 (.string s)] w fun e w' => e = .returned (.tuple #[.agg #[.int .i64 0, .string { data := #[] }, .string { data := #[] }, .int .i64 0, .slice none 0 0, .bool false], .bool false]) ∧ Below w.heap.size w w' := by
  go_enter Try.func30, Try.ntmps30
  go_wp2
  go_returns
  refine ⟨rfl, ?_⟩
  go_grown
set_option maxRecDepth 100000 in
set_option maxHeartbeats 4000000 in
theorem parse_text (s : ByteArray) (w : World) : Calls Try.prog 18 #[.iface 9 (.string s)] w fun e w' => e = .returned (.tuple #[.agg #[.int .i64 0, .string { data := #[] }, .string { data := #[] }, .int .i64 0, .slice none 0 0, .bool false], .int .i64 2]) ∧ Below w.heap.size w w' := by
  have HR := Lib.hid (read_text s)
  go_enter Try.func18, Try.ntmps18
  go_wp2_with fail
  refine (HR.out _).mono ?_
  rintro e w1 ⟨rfl, hb⟩
  have hz := (hb.block w.heap.size (by simp)).trans (heap_alloc_new w _)
  have hsz : Hid (w.heap.size < w1.heap.size) := Lib.hid (Array.getElem?_eq_some_iff.1 hz).1
  replace hb := Lib.hid (box_below hb)
  have hz2 : Hid ((w1.alloc (.cells #[.int .i64 0, .string { data := #[] }, .string { data := #[] }, .int .i64 0, .slice none 0 0, .bool false] 29)).heap[w.heap.size]? = some (.cells #[.int .i64 0, .string { data := #[] }, .string { data := #[] }, .int .i64 0, .slice none 0 0, .bool false] 29 (0, 0))) := Lib.hid (by
    rw [((Below.refl w1.heap.size w1).alloc (Nat.le_refl _) _).block w.heap.size hsz.out]; exact hz)
  have hb2 : Hid (Below w.heap.size w (w1.alloc (.cells #[.int .i64 0, .string { data := #[] }, .string { data := #[] }, .int .i64 0, .slice none 0 0, .bool false] 29))) := Lib.hid (hb.out.alloc (Nat.le_of_lt hsz.out) _)
  clear hz
  go_wp2_with (refine wpList_bz_put w.heap.size rfl rfl hz2.out ?_)
  intro w4 hz4 hg4
  go_wp2
  have hcell := cell_of hz4
  refine bodyPost_ret (by simp [results, Try.results18, go_sem, hcell]; try rfl) rfl ?_
  exact ⟨rfl, below_put hb2.out hg4 hb2.out.size (Nat.le_refl _)⟩
set_option maxRecDepth 100000 in
set_option maxHeartbeats 4000000 in
theorem parse_list (g : Gr) (n0 : ByteArray) (hn0 : n0.size ≤ 1000000) (hok : OkS n0) (hsm : g.small) (hrt : g.right = true) (hnd : g.need = rd 8 n0) (ht : needT g = n0) (bl : Nat) (w : World) (hbl : w.heap[bl]? = some (.cells (listV g.id g.ops g.who g.ret n0 g.eq) 54 (0, 0))) :
    Calls Try.prog 18 #[.iface 43 (.slice (some ⟨bl, 0, none⟩) 6 6)] w fun e w' => ∃ v, e = .returned (.tuple #[v, .int .i64 0]) ∧ GrAt w' v g ∧ Below w.heap.size w w' := by
  obtain ⟨id, who, ret, ops, need, eq⟩ := g
  simp only at hnd hbl
  subst hnd
  have HR := Lib.hid (fun W h => read_ok id ops who ret n0 eq hn0 hok hsm hrt ht bl W h)
  have HRP : Hid (rightP (rd 8 n0) = true) := Lib.hid (by simp only [Gr.right, Bool.and_eq_true] at hrt; exact hrt.2)
  have hblt := (Array.getElem?_eq_some_iff.1 hbl).1
  have hbl2 : Hid ((w.alloc (.cells #[.int .i64 0, .string { data := #[] }, .string { data := #[] }, .int .i64 0, .slice none 0 0, .bool false] 29)).heap[bl]? = some (.cells (listV id ops who ret n0 eq) 54 (0, 0))) := Lib.hid (by
    rw [((Below.refl w.heap.size w).alloc (Nat.le_refl _) _).block bl hblt]; exact hbl)
  obtain ⟨ANS, hA⟩ : ∃ A : Ending → World → Prop, (fun e w' => ∃ v, e = .returned (.tuple #[v, .int .i64 0]) ∧ GrAt w' v ⟨id, who, ret, ops, rd 8 n0, eq⟩ ∧ Below w.heap.size w w') = A := ⟨_, rfl⟩
  have HA : Hid (∀ v w', GrAt w' v ⟨id, who, ret, ops, rd 8 n0, eq⟩ → Below w.heap.size w w' → ANS (.returned (.tuple #[v, .int .i64 0])) w') := Lib.hid (fun v w' h1 h2 => by
    rw [← hA]; exact ⟨v, rfl, h1, h2⟩)
  rw [hA]
  clear hA hbl hblt hok hsm hrt ht hn0
  go_enter Try.func18, Try.ntmps18
  go_wp2_with fail
  refine (HR.out _ hbl2.out).mono ?_
  rintro e w1 ⟨v, rfl, hv, hb⟩
  obtain ⟨p, cap, rfl, hP⟩ := hv
  obtain ⟨n, hn⟩ : ∃ n, (rd 8 n0).length = n := ⟨_, rfl⟩
  simp only [grV, hn] at hP ⊢
  have HN := Lib.hid hn
  have HP := Lib.hid hP
  have hz := (hb.block w.heap.size (by simp)).trans (heap_alloc_new w _)
  have hsz : Hid (w.heap.size < w1.heap.size) := Lib.hid (Array.getElem?_eq_some_iff.1 hz).1
  replace hb := Lib.hid (box_below hb)
  have hz2 : Hid ((w1.alloc (.cells #[.int .i64 id, .string who, .string ret, .int .i64 ops, .slice p n cap, .bool eq] 29)).heap[w.heap.size]? = some (.cells #[.int .i64 0, .string { data := #[] }, .string { data := #[] }, .int .i64 0, .slice none 0 0, .bool false] 29 (0, 0))) := Lib.hid (by
    rw [((Below.refl w1.heap.size w1).alloc (Nat.le_refl _) _).block w.heap.size hsz.out]; exact hz)
  have hb2 : Hid (Below w.heap.size w (w1.alloc (.cells #[.int .i64 id, .string who, .string ret, .int .i64 ops, .slice p n cap, .bool eq] 29))) := Lib.hid (hb.out.alloc (Nat.le_of_lt hsz.out) _)
  have HP2 : Hid (PsC (w1.alloc (.cells #[.int .i64 id, .string who, .string ret, .int .i64 ops, .slice p n cap, .bool eq] 29)) (.slice p n cap) (rd 8 n0)) := Lib.hid (HP.out.below ((Below.refl w1.heap.size w1).alloc (Nat.le_refl _) _))
  have hi := Lib.hid (show (Try.prog.info? 29).map (·.size) = some (#[.int .i64 id, .string who, .string ret, .int .i64 ops, .slice p n cap, .bool eq] : Array Value).size by kernel_rfl)
  have hs := Lib.hid (show (#[.int .i64 0, .string { data := #[] }, .string { data := #[] }, .int .i64 0, .slice none 0 0, .bool false] : Array Value).size = (#[.int .i64 id, .string who, .string ret, .int .i64 ops, .slice p n cap, .bool eq] : Array Value).size from rfl)
  have h1 := Lib.hid (show (#[.int .i64 id, .string who, .string ret, .int .i64 ops, .slice p n cap, .bool eq] : Array Value).all (·.oneCell') = true by simp [Value.oneCell'])
  clear hz hn hP
  go_wp2_with (with_reducible refine wpList_put 29 w.heap.size _ _ rfl rfl hz2.out hi.out hs.out h1.out ?_)
  intro w4 hz4 hg4
  go_wp2
  have hcell := cell_of hz4
  refine bodyPost_ret (by simp [results, Try.results18, go_sem, hcell]; try rfl) rfl ?_
  exact HA.out _ _ ⟨p, cap, by simp only [grV, HN.out], by simp only [HN.out]; exact ps_past HP2.out HRP.out hz2.out hg4⟩ (below_put hb2.out hg4 hb2.out.size (Nat.le_refl _))
/-- Is a grant small enough? -/
def fewG (g : Gr) : Bool := decide (g.who.size ≤ 300) && decide (g.ret.size ≤ 300) && fewB g.need
theorem fewG_small {g : Gr} (h : fewG g = true) : g.small := by
  simp only [fewG, Bool.and_eq_true, decide_eq_true_eq, fewB_iff] at h
  exact ⟨by omega, by omega, by omega, fun x hx => by have := h.2.2 x hx; omega⟩
/-- Sizes that a machine's words hold. -/
def sane (g : Gr) : Prop := g.who.size ≤ 9223372036854775807 ∧ g.ret.size ≤ 9223372036854775807 ∧ g.need.length ≤ 9223372036854775807 ∧ ∀ x ∈ g.need, x.1.size ≤ 9223372036854775807 ∧ x.2.size ≤ 9223372036854775807
set_option maxRecDepth 100000 in
theorem fewG_any (g : Gr) (hs : sane g) (v : Value) (w : World) (hg : GrAt w v g) :
    Calls Try.prog 8 #[v] w fun e w' => e = .returned (.bool (fewG g)) ∧ Below w.heap.size w w' := by
  obtain ⟨p, cap, rfl, hP⟩ := hg
  obtain ⟨id, who, ret, ops, need, eq⟩ := g
  obtain ⟨s1, s2, s3, s4⟩ := hs
  simp only at s1 s2 s3 s4 hP
  simp only [grV, fewG]
  have HF := Lib.hid (fun W h => few_any need p cap s3 s4 W h)
  have HP := Lib.hid hP
  have hb : Hid (∀ o : Obj, Below w.heap.size w (w.alloc o)) := Lib.hid (fun o => (Below.refl w.heap.size w).alloc (Nat.le_refl _) o)
  obtain ⟨b, hb3⟩ : ∃ b, fewB need = b := ⟨_, rfl⟩
  obtain ⟨n, hn⟩ : ∃ n, need.length = n := ⟨_, rfl⟩
  rw [hb3] at HF ⊢
  rw [hn] at HF HP ⊢
  clear hP hb3 hn s3 s4
  by_cases h1 : who.size ≤ 300
  · by_cases h2 : ret.size ≤ 300
    · have d1 : decide ((who.size : Int) ≤ 300) = true := by simp; omega
      have d2 : decide ((ret.size : Int) ≤ 300) = true := by simp; omega
      have HZ : Hid ((decide (who.size ≤ 300) && decide (ret.size ≤ 300) && b) = b) := Lib.hid (by simp [h1, h2])
      clear h1 h2 s1 s2
      go_enter Try.func8, Try.ntmps8
      go_wp2_with fail
      refine (HF.out _ (HP.out.below (hb.out _))).mono ?_
      rintro e w1 ⟨rfl, hw⟩
      cases hw
      go_wp2
      go_ret
      exact ⟨by rw [HZ.out]; rfl, hb.out _⟩
    · have d1 : decide ((who.size : Int) ≤ 300) = true := by simp; omega
      have d2 : decide ((ret.size : Int) ≤ 300) = false := by simp; omega
      have HZ : Hid ((decide (who.size ≤ 300) && decide (ret.size ≤ 300) && b) = false) := Lib.hid (by simp [h2])
      clear h1 h2 s1 s2
      go_enter Try.func8, Try.ntmps8
      go_wp2
      go_ret
      exact ⟨by rw [HZ.out]; rfl, hb.out _⟩
  · have d1 : decide ((who.size : Int) ≤ 300) = false := by simp; omega
    have HZ : Hid ((decide (who.size ≤ 300) && decide (ret.size ≤ 300) && b) = false) := Lib.hid (by simp [h1])
    clear h1 s1 s2
    go_enter Try.func8, Try.ntmps8
    go_wp2
    go_ret
    exact ⟨by rw [HZ.out]; rfl, hb.out _⟩
end Go.Proofs.Ytfihbfkgkljjdaa

/- The document's Parse, by contract. No condition but the text's length. -/
import Derived.Test.YtncbgonanoihfaaF4
import Derived.Test.YtncbgonanoihfaaP5
namespace Go.Proofs.Ytncbgonanoihfaa
open Go.RowKit Go.Own
/-- What the document's Parse answers. -/
def RPQ (r : Option A) (w : World) (e : Ending) (w' : World) : Prop :=
  (∃ a v, r = some a ∧ e = .returned (.tuple #[v, .int .i64 0]) ∧ VAt w' (fun b => w.heap.size ≤ b) v (toV a) ∧ Below w.heap.size w w') ∨
  (r = none ∧ e = .returned (.tuple #[.agg #[.int .i64 0, .int .i64 0, .string { data := #[] }, .bool false, .slice none 0 0], .int .i64 2]) ∧ Below w.heap.size w w')
set_option maxRecDepth 100000 in
set_option maxHeartbeats 1000000 in
theorem rparse_any (L : List Nat) (hb : ∀ c ∈ L, c < 256) (hL : L.length ≤ 3000) (w : World) : Calls Try.prog 13 #[.string (mkS L)] w (RPQ (pa L) w) := by
  have HBR : Hid (Blk (w.alloc (.cells #[.int .i64 0, .int .i64 0, .string { data := #[] }, .bool false, .slice none 0 0] 24)) w.heap.size #[.int .i64 0, .int .i64 0, .string { data := #[] }, .bool false, .slice none 0 0]) := Lib.hid (blk_new w _)
  have HB0 : Hid (Below w.heap.size w (w.alloc (.cells #[.int .i64 0, .int .i64 0, .string { data := #[] }, .bool false, .slice none 0 0] 24))) := Lib.hid ((Below.refl _ w).alloc (Nat.le_refl _) _)
  have HR := rp_any L hb hL 8 (by omega) 0 0 (w.alloc (.cells #[.int .i64 0, .int .i64 0, .string { data := #[] }, .bool false, .slice none 0 0] 24)) (Nat.zero_le _) (by omega)
  rw [List.drop_zero] at HR
  replace HR := Lib.hid HR
  have HPA : Hid (pa L = match rd 8 L with
    | some (a, []) => some a
    | _ => none) := Lib.hid rfl
  have HTL : Hid (∀ a t', rd 8 L = some (a, t') → t'.length ≤ L.length) := Lib.hid (fun a t' h => by
    have hw := pr_rd 8 (by omega) L hb a t' h
    rw [hw.text, List.length_append]; omega)
  obtain ⟨p, hp⟩ : ∃ p, pa L = p := ⟨_, rfl⟩
  obtain ⟨r, hr⟩ : ∃ r, rd 8 L = r := ⟨_, rfl⟩
  rw [hr] at HR HPA HTL
  rw [hp] at HPA ⊢
  obtain ⟨q, hq⟩ : ∃ q, mkS L = q := ⟨_, rfl⟩
  have hz : q.size = L.length := by rw [← hq, mkS_size]
  rw [hq] at HR ⊢
  obtain ⟨N, hN⟩ : ∃ n, L.length = n := ⟨_, rfl⟩
  rw [hN] at hz hL HTL
  have HN := Lib.hid hN
  clear hb hp hr hq hN
  go_enter Try.func13, Try.ntmps13
  go_wp2_with (go_at_call 29; fail)
  refine HR.out.mono ?_
  intro e w2 hrq
  rcases hrq with ⟨a, t', v, rfl, rfl, hv, hb2⟩ | ⟨rfl, rfl, hb2⟩
  · have htl := HTL.out a t' rfl
    obtain ⟨y, hy⟩ : ∃ y, toV a = y := ⟨_, rfl⟩
    have HY := Lib.hid hy
    rw [hy] at hv
    obtain ⟨k, m', s, bb, l⟩ := y
    obtain ⟨p2, cap2, hp2⟩ := VAt.parts hv
    obtain ⟨rfl, _⟩ := hp2
    have HV := Lib.hid ((hv.keep (T := fun b => w.heap.size + 1 ≤ b) (fun b h _ => (by simp at h; omega)) (Nat.le_refl _) (fun _ _ _ => rfl)).fresh ((Below.refl _ w2).alloc (Nat.le_refl _) (.cells #[.int .i64 k, .int .i64 m', .string s, .bool bb, .slice p2 l.length cap2] 24)))
    have hON := hv.ones
    have hs2 : w.heap.size + 1 ≤ w2.heap.size := by have := hb2.size; simp at this; omega
    have HR4 := Lib.hid ((HBR.out.past hb2).past ((Below.refl _ w2).alloc (Nat.le_refl _) (.cells #[.int .i64 k, .int .i64 m', .string s, .bool bb, .slice p2 l.length cap2] 24)))
    have HB4 := Lib.hid ((HB0.out.trans (hb2.mono (by simp))).alloc (by omega : w.heap.size ≤ w2.heap.size) (.cells #[.int .i64 k, .int .i64 m', .string s, .bool bb, .slice p2 l.length cap2] 24))
    obtain ⟨K, hK⟩ : ∃ K, L.length - t'.length = K := ⟨_, rfl⟩
    rw [hK]
    cases t' with
    | nil =>
      have hKN : K = N := by rw [← hK, HN.out]; rfl
      subst hKN
      have HP : Hid (p = some a) := HPA
      clear hv hb2 hK hy htl
      go_wp2_with (with_reducible refine wpList_put5 w.heap.size _ _ _ _ _ _ _ _ _ _ rfl rfl HR4.out hON ?_)
      intro w5 hr5 hg5
      have HB5 := Lib.hid (below_blk HB4.out hg5 (by simp; omega) (Nat.le_refl _))
      have y0 := hr5.cell 0
      have y1 := hr5.cell 1
      have y2 := hr5.cell 2
      have y3 := hr5.cell 3
      have y4 := hr5.cell 4
      simp at y0 y1 y2 y3 y4
      have HV5 : Hid (VAt w5 (fun b => w.heap.size ≤ b) (.agg #[.int .i64 k, .int .i64 m', .string s, .bool bb, .slice p2 l.length cap2]) (toV a)) := Lib.hid (by
        rw [HY.out]
        exact HV.out.keep (fun b h _ => Nat.le_of_succ_le h) hg5.size (fun b h hlt => hg5.block b hlt (by simp; omega)))
      clear hr5 hg5
      go_wp2
      refine bodyPost_ret (v := .tuple #[.agg #[.int .i64 k, .int .i64 m', .string s, .bool bb, .slice p2 l.length cap2], .int .i64 0]) (by simp [results, Try.results13, go_sem, y0, y1, y2, y3, y4]) rfl ?_
      exact Or.inl ⟨a, _, HP.out, rfl, HV5.out, HB5.out⟩
    | cons c t' =>
      have hne : ((K : Int) != (N : Int)) = true := by
        rw [List.length_cons] at hK htl
        have : L.length = N := HN.out
        simp; omega
      have HP : Hid (p = none) := HPA
      clear hv hb2 hK hy htl hON
      go_wp2_with (with_reducible refine wpList_put5 w.heap.size _ _ _ _ _ _ _ _ _ _ rfl rfl HR4.out ones_zero ?_)
      intro w5 hr5 hg5
      have HB5 := Lib.hid (below_blk HB4.out hg5 (by simp; omega) (Nat.le_refl _))
      have y0 := hr5.cell 0
      have y1 := hr5.cell 1
      have y2 := hr5.cell 2
      have y3 := hr5.cell 3
      have y4 := hr5.cell 4
      simp at y0 y1 y2 y3 y4
      clear hr5 hg5
      go_wp2
      refine bodyPost_ret (v := .tuple #[.agg #[.int .i64 0, .int .i64 0, .string { data := #[] }, .bool false, .slice none 0 0], .int .i64 2]) (by simp [results, Try.results13, go_sem, y0, y1, y2, y3, y4]) rfl ?_
      exact Or.inr ⟨HP.out, rfl, HB5.out⟩
  · have hs2 : w.heap.size + 1 ≤ w2.heap.size := by have := hb2.size; simp at this; omega
    have HR4 := Lib.hid ((HBR.out.past hb2).past ((Below.refl _ w2).alloc (Nat.le_refl _) (.cells #[.int .i64 0, .int .i64 0, .string { data := #[] }, .bool false, .slice none 0 0] 24)))
    have HB4 := Lib.hid ((HB0.out.trans (hb2.mono (by simp))).alloc (by omega : w.heap.size ≤ w2.heap.size) (.cells #[.int .i64 0, .int .i64 0, .string { data := #[] }, .bool false, .slice none 0 0] 24))
    have hne : ((-1 : Int) != (N : Int)) = true := by simp
    have HP : Hid (p = none) := HPA
    clear hb2
    go_wp2_with (with_reducible refine wpList_put5 w.heap.size _ _ _ _ _ _ _ _ _ _ rfl rfl HR4.out ones_zero ?_)
    intro w5 hr5 hg5
    have HB5 := Lib.hid (below_blk HB4.out hg5 (by simp; omega) (Nat.le_refl _))
    have y0 := hr5.cell 0
    have y1 := hr5.cell 1
    have y2 := hr5.cell 2
    have y3 := hr5.cell 3
    have y4 := hr5.cell 4
    simp at y0 y1 y2 y3 y4
    clear hr5 hg5
    go_wp2
    refine bodyPost_ret (v := .tuple #[.agg #[.int .i64 0, .int .i64 0, .string { data := #[] }, .bool false, .slice none 0 0], .int .i64 2]) (by simp [results, Try.results13, go_sem, y0, y1, y2, y3, y4]) rfl ?_
    exact Or.inr ⟨HP.out, rfl, HB5.out⟩
end Go.Proofs.Ytncbgonanoihfaa

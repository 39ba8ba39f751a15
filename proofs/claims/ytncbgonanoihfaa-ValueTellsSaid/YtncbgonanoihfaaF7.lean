/- The document's value of a value that was read off a text, by contract. No condition but the text's length. -/
import Derived.Test.YtncbgonanoihfaaF6
namespace Go.Proofs.Ytncbgonanoihfaa
open Go.RowKit Go.Own
set_option maxRecDepth 100000 in
set_option maxHeartbeats 1000000 in
theorem told_of (L : List Nat) (hb : ∀ c ∈ L, c < 256) (hL : L.length ≤ 3000) (a : A) (ha : pa L = some a) (v : Value) (w : World) (hv : Has w v a) :
    Calls Try.prog 15 #[v] w fun e w' => ∃ r, e = .returned r ∧ Below w.heap.size w w' ∧ Holds w' r (toV a) := by
  obtain ⟨hwt, he, _⟩ := pa_was hb ha
  have hsz : sz a 0 ≤ 140737488355328 := by rw [← pr_sz a 0 he, ← hwt]; omega
  have hpt : prt a = mkS L := by rw [prt, if_pos he, ← hwt]
  have HP := Lib.hid (print_any a v (w.alloc (.cells #[.int .i64 0, .int .i64 0, .string { data := #[] }, .bool false, .slice none 0 0] 24)) (hv.below ((Below.refl _ w).alloc (Nat.le_refl _) _)) hsz)
  unfold PrintQ at HP
  rw [he, hpt] at HP
  have HR := Lib.hid (fun w => rparse_any L hb hL w)
  rw [ha] at HR
  have HB0 : Hid (Below w.heap.size w (w.alloc (.cells #[.int .i64 0, .int .i64 0, .string { data := #[] }, .bool false, .slice none 0 0] 24))) := Lib.hid ((Below.refl _ w).alloc (Nat.le_refl _) _)
  have HBR : Hid (Blk (w.alloc (.cells #[.int .i64 0, .int .i64 0, .string { data := #[] }, .bool false, .slice none 0 0] 24)) w.heap.size #[.int .i64 0, .int .i64 0, .string { data := #[] }, .bool false, .slice none 0 0]) := Lib.hid (blk_new w _)
  obtain ⟨q, hq⟩ : ∃ q, mkS L = q := ⟨_, rfl⟩
  rw [hq] at HP HR
  have hform := hv.form
  clear hq hb hL ha hwt he hsz hpt hv
  have key : ∀ (v : Value), Hid (Calls Try.prog 9 #[v] (w.alloc (.cells #[.int .i64 0, .int .i64 0, .string { data := #[] }, .bool false, .slice none 0 0] 24)) fun e w' => e = .returned (.tuple #[.string q, .int .i64 0]) ∧ Below (w.alloc (.cells #[.int .i64 0, .int .i64 0, .string { data := #[] }, .bool false, .slice none 0 0] 24)).heap.size (w.alloc (.cells #[.int .i64 0, .int .i64 0, .string { data := #[] }, .bool false, .slice none 0 0] 24)) w') → Calls Try.prog 15 #[v] w fun e w' => ∃ r, e = .returned r ∧ Below w.heap.size w w' ∧ Holds w' r (toV a) := by
    intro v HP
    go_enter Try.func15, Try.ntmps15
    go_wp2_with (go_at_call 9; fail)
    refine HP.out.mono ?_
    rintro e w1 ⟨rfl, hb1⟩
    have HB1 := Lib.hid (HB0.out.trans (hb1.mono (by simp)))
    have HR1 := Lib.hid (HBR.out.past hb1)
    clear hb1
    go_wp2_with (go_at_call 13; fail)
    refine (HR.out _).mono ?_
    intro e w2 hrq
    rcases hrq with ⟨a', v2, ha', rfl, hv2, hb2⟩ | ⟨h, _⟩
    · obtain rfl : a = a' := Option.some.inj ha'
      obtain ⟨y, hy⟩ : ∃ y, toV a = y := ⟨_, rfl⟩
      have HY := Lib.hid hy
      rw [hy] at hv2
      obtain ⟨k, m', s, bb, l⟩ := y
      obtain ⟨p2, cap2, hp2⟩ := VAt.parts hv2
      obtain ⟨rfl, _⟩ := hp2
      have hs1 : w.heap.size + 1 ≤ w1.heap.size := by have := HR1.out.lt; omega
      have HV := Lib.hid ((hv2.keep (T := fun b => w.heap.size + 1 ≤ b) (fun b h _ => Nat.le_trans hs1 h) (Nat.le_refl _) (fun _ _ _ => rfl)).fresh ((Below.refl _ w2).alloc (Nat.le_refl _) (.cells #[.int .i64 k, .int .i64 m', .string s, .bool bb, .slice p2 l.length cap2] 24)))
      have hON := hv2.ones
      have HR4 := Lib.hid ((HR1.out.past hb2).past ((Below.refl _ w2).alloc (Nat.le_refl _) (.cells #[.int .i64 k, .int .i64 m', .string s, .bool bb, .slice p2 l.length cap2] 24)))
      have hs2 := hb2.size
      have HB4 := Lib.hid ((HB1.out.trans (hb2.mono (by omega))).alloc (by omega : w.heap.size ≤ w2.heap.size) (.cells #[.int .i64 k, .int .i64 m', .string s, .bool bb, .slice p2 l.length cap2] 24))
      clear hv2 hb2 hy ha'
      go_wp2_with (with_reducible refine wpList_put5 w.heap.size _ _ _ _ _ _ _ _ _ _ rfl rfl HR4.out hON ?_)
      intro w5 hr5 hg5
      have HB5 := Lib.hid (below_blk HB4.out hg5 (by simp; omega) (Nat.le_refl _))
      have y0 := hr5.cell 0
      have y1 := hr5.cell 1
      have y2 := hr5.cell 2
      have y3 := hr5.cell 3
      have y4 := hr5.cell 4
      simp at y0 y1 y2 y3 y4
      have HV5 : Hid (Holds w5 (.agg #[.int .i64 k, .int .i64 m', .string s, .bool bb, .slice p2 l.length cap2]) (.mk k m' s bb l)) := Lib.hid (HV.out.keep (fun _ _ _ => trivial) hg5.size (fun b h hlt => hg5.block b hlt (by simp; omega)))
      clear hr5 hg5 hON
      go_wp2
      refine bodyPost_ret (v := .agg #[.int .i64 k, .int .i64 m', .string s, .bool bb, .slice p2 l.length cap2]) (by simp [results, Try.results15, go_sem, y0, y1, y2, y3, y4]) rfl ?_
      exact ⟨_, rfl, HB5.out, by rw [HY.out]; exact HV5.out⟩
    · cases h
  exact key v HP
end Go.Proofs.Ytncbgonanoihfaa

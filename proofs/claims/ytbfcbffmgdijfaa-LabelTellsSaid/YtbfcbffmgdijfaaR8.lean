/- The document's reading of a context's text, by contract. No condition but the text's size. -/
import Derived.Test.YtbfcbffmgdijfaaR7
import Derived.Test.YtbfcbffmgdijfaaN3
namespace Go.Proofs.Ytbfcbffmgdijfaa
open Go.RowKit Go.Own
/-- Block g holds two strings, which may be written. -/
def Two (w : World) (g : Nat) (k l : ByteArray) : Prop := w.heap[g]? = some (.cells #[.string k, .string l] 56 (0, 0))
theorem Two.cell0 {w : World} {g : Nat} {k l : ByteArray} (h : Two w g k l) : w.cell? ⟨g, 0, none⟩ = some (.string k) := by simp [World.cell?, show w.heap[g]? = _ from h]
theorem Two.cell1 {w : World} {g : Nat} {k l : ByteArray} (h : Two w g k l) : w.cell? ⟨g, 1, none⟩ = some (.string l) := by simp [World.cell?, show w.heap[g]? = _ from h]
theorem Two.free {w : World} {g : Nat} {k l : ByteArray} (h : Two w g k l) (j : Nat) : w.frozen? ⟨g, j, none⟩ = false := by simp [World.frozen?, show w.heap[g]? = _ from h]
theorem Two.set0 {w : World} {g : Nat} {k l : ByteArray} (h : Two w g k l) (u : ByteArray) : Two (w.setCell ⟨g, 0, none⟩ (.string u)) g u l := by
  have hlt := (Array.getElem?_eq_some_iff.1 h).1
  have h' : w.heap[g] = .cells #[.string k, .string l] 56 (0, 0) := (Array.getElem?_eq_some_iff.1 h).2
  show (w.heap.modify g _)[g]? = _
  rw [Array.getElem?_eq_getElem (by simpa using hlt), Array.getElem_modify_self, h']
  rfl
theorem Two.set1 {w : World} {g : Nat} {k l : ByteArray} (h : Two w g k l) (u : ByteArray) : Two (w.setCell ⟨g, 1, none⟩ (.string u)) g k u := by
  have hlt := (Array.getElem?_eq_some_iff.1 h).1
  have h' : w.heap[g] = .cells #[.string k, .string l] 56 (0, 0) := (Array.getElem?_eq_some_iff.1 h).2
  show (w.heap.modify g _)[g]? = _
  rw [Array.getElem?_eq_getElem (by simpa using hlt), Array.getElem_modify_self, h']
  rfl
theorem two_new (w : World) : Two (w.alloc (.cells #[.string { data := #[] }, .string { data := #[] }] 56)) w.heap.size { data := #[] } { data := #[] } := heap_alloc_new w _
/-- Where the inner loop stands. -/
def At (s : ByteArray) (t : Nat) (q u : Nat) (k l : ByteArray) : Prop := (q = 0 ∧ u = t) ∨ (q = 1 ∧ Take s t k u) ∨ (q = 2 ∧ ∃ m, Take s t k m ∧ Take s m l u)
set_option maxRecDepth 100000 in
set_option maxHeartbeats 4000000 in
theorem refParse_any (s : ByteArray) (hs : s.size ≤ 1500) (w : World) :
    Calls Try.prog 12 #[.string s] w fun e w' => ((OkS s ∧ ∃ v, e = .returned (.tuple #[v, .int .i64 0]) ∧ PsC w' v (rd 8 s)) ∨ (¬ OkS s ∧ e = .returned (.tuple #[.slice none 0 0, .int .i64 2]))) ∧ Below w.heap.size w w' := by
  obtain ⟨i0, hi, hz0, hz1, hz2⟩ := info_parts info39
  go_enter Try.func12, Try.ntmps12
  go_wp2
  go_loopw [4, 5] (fun v a wr => ∃ (t : Nat) (M : List P2), t ≤ s.size ∧ a = .int .i64 (t : Int) ∧ Hid (OwnP wr w.heap.size v M) ∧ Hid (encs M = (bys s).take t) ∧ Hid (Rises M) ∧ Hid (Below w.heap.size w wr)) (fun _ a _ => s.size - (intOf a).toNat)
  case atStart => exact ⟨0, [], Nat.zero_le _, rfl, Lib.hid (OwnP.nil w _), Lib.hid (by simp [encs]), Lib.hid List.Pairwise.nil, Lib.hid (Below.refl _ _)⟩
  case round =>
    obtain ⟨t, M, ht, rfl, HO, HM, HS, HB⟩ := hrel
    obtain ⟨wo, rfl⟩ : ∃ wo : World, wo = wr := ⟨_, rfl⟩
    by_cases hlt : t < s.size
    · have hti : (t : Int) < s.size := by omega
      go_wp2
      go_loopw [5, 7] (fun a i wi => ∃ (q u : Nat) (k l : ByteArray), q ≤ 2 ∧ i = .int .i64 (q : Int) ∧ a = .int .i64 (u : Int) ∧ u ≤ s.size ∧ Hid (Two wi wo.heap.size k l) ∧ Hid (At s t q u k l) ∧ Hid (Below wo.heap.size wo wi)) (fun _ i _ => 2 - (intOf i).toNat)
      case atStart => exact ⟨0, t, _, _, by omega, rfl, rfl, ht, Lib.hid (two_new wo), Lib.hid (Or.inl ⟨rfl, rfl⟩), Lib.hid ((Below.refl _ _).alloc (Nat.le_refl _) _)⟩
      case round =>
        obtain ⟨q, u, k, l, hq, rfl, rfl, hu, HT, HA, HBr⟩ := hrel
        have HBw := Lib.hid (HB.out.trans (HBr.out.mono HB.out.size))
        by_cases hq2 : q < 2
        · have hqi : (q : Int) < 2 := by omega
          by_cases hend : s.size ≤ u
          · have hd : (s.size : Int) ≤ (u : Int) := by omega
            have HN : Hid (¬ OkS s) := Lib.hid (by
              rcases HA.out with ⟨_, h⟩ | ⟨_, h⟩ | ⟨h, _⟩
              · omega
              · exact bad_two HM.out h (Or.inl hend)
              · omega)
            clear hend
            go_wp2
            go_ret2
            exact ⟨Or.inr ⟨HN.out, rfl⟩, HBw.out⟩
          · obtain ⟨c, hc⟩ : ∃ c, gi (bys s) u = c := ⟨_, rfl⟩
            have hus : u < s.size := by omega
            have hd : ¬ (s.size : Int) ≤ (u : Int) := by omega
            have hcb : c < 256 := by rw [← hc]; exact gi_bys_lt s u
            have hix : ∀ (kk : IntKind) W, (Instr.index 9 (.string s) (.int kk (u : Int))).run Try.prog W = .ok (.int .u8 (c : Int)) W := fun kk W => by rw [ixS s kk u W hus, hc]
            by_cases hfit : u + 1 + c ≤ s.size
            · have hd2 : ¬ (s.size : Int) < (u : Int) + 1 + (c : Int) := by omega
              have HK := Lib.hid (take_mk hus hc hfit)
              have hq01 : q = 0 ∨ q = 1 := by omega
              rcases hq01 with rfl | rfl
              · have HA2 : Hid (At s t 1 (u + 1 + c) (s.extract (u + 1) (u + 1 + c)) l) := Lib.hid (by
                  rcases HA.out with ⟨_, h⟩ | ⟨h, _⟩ | ⟨h, _⟩
                  · subst h; exact Or.inr (Or.inl ⟨rfl, HK.out⟩)
                  · omega
                  · omega)
                have c0 := HT.out.cell0
                have f0 := HT.out.free 0
                clear hc hend
                go_wp2
                go_roundw
                case rel => exact ⟨1, u + 1 + c, _, l, by omega, by go_num, by go_num, hfit, Lib.hid (HT.out.set0 _), HA2, Lib.hid (HBr.out.setCell (Nat.le_refl _) _)⟩
                case measure => simp [intOf]
              · have HA2 : Hid (At s t 2 (u + 1 + c) k (s.extract (u + 1) (u + 1 + c))) := Lib.hid (by
                  rcases HA.out with ⟨h, _⟩ | ⟨_, h⟩ | ⟨h, _⟩
                  · omega
                  · exact Or.inr (Or.inr ⟨rfl, u, h, HK.out⟩)
                  · omega)
                have c0 := HT.out.cell1
                have f0 := HT.out.free 1
                clear hc hend
                go_wp2
                go_roundw
                case rel => exact ⟨2, u + 1 + c, k, _, by omega, by go_num, by go_num, hfit, Lib.hid (HT.out.set1 _), HA2, Lib.hid (HBr.out.setCell (Nat.le_refl _) _)⟩
                case measure => simp [intOf]
            · have hd2 : (s.size : Int) < (u : Int) + 1 + (c : Int) := by omega
              have HN : Hid (¬ OkS s) := Lib.hid (by
                rcases HA.out with ⟨_, h⟩ | ⟨_, h⟩ | ⟨h, _⟩
                · subst h; exact bad_one HM.out hlt (by rw [hc]; exact hfit)
                · exact bad_two HM.out h (Or.inr (by rw [hc]; exact hfit))
                · omega)
              clear hend hc
              go_wp2
              go_ret2
              exact ⟨Or.inr ⟨HN.out, rfl⟩, HBw.out⟩
        · obtain rfl : q = 2 := by omega
          have HTK : Hid (encs (M ++ [(k, l)]) = (bys s).take u ∧ t < u) := Lib.hid (by
            rcases HA.out with ⟨h, _⟩ | ⟨h, _⟩ | ⟨_, m, h1, h2⟩
            · omega
            · omega
            · exact ⟨took_two HM.out h1 h2, by have := h1.2.2.1; have := h2.2.2.1; omega⟩)
          have htu := HTK.out.2
          have HO2 := Lib.hid (HO.out.below HBr.out)
          have hnl : M.length ≤ 1500 := by
            have := (encs_ge (M := M)).1
            rw [HM.out, List.length_take] at this; omega
          obtain ⟨pM, cM, rfl⟩ := HO2.out.shape
          have HC : Hid ((M.length = 0 ∧ Rises (M ++ [(k, l)])) ∨ (∃ (n' : Nat) (x : P2), (M.length : Int) - 1 = (n' : Int) ∧ n' < M.length ∧ M[n']? = some x ∧ Op.bytesLess x.1.toList k.toList = true ∧ Rises (M ++ [(k, l)])) ∨ (∃ (n' : Nat) (x : P2), (M.length : Int) - 1 = (n' : Int) ∧ n' < M.length ∧ M[n']? = some x ∧ Op.bytesLess x.1.toList k.toList = false ∧ ¬ OkS s)) := Lib.hid (by
            rcases Nat.eq_zero_or_pos M.length with h0 | h0
            · exact Or.inl ⟨h0, rises_more HS.out (Or.inl (List.eq_nil_of_length_eq_zero h0))⟩
            · have hy := List.getElem?_eq_getElem (l := M) (i := M.length - 1) (by omega)
              by_cases hl : kl (M[M.length - 1]'(by omega)) < kl (k, l)
              · exact Or.inr (Or.inl ⟨M.length - 1, _, by omega, by omega, hy, by rw [less_kl _ (k, l)]; exact decide_eq_true hl, rises_more HS.out (Or.inr ⟨_, hy, hl⟩)⟩)
              · exact Or.inr (Or.inr ⟨M.length - 1, _, by omega, by omega, hy, by rw [less_kl _ (k, l)]; exact decide_eq_false hl, bad_order HTK.out.1 (List.mem_of_getElem? hy) hl⟩))
          obtain ⟨n, hn⟩ : ∃ n, M.length = n := ⟨_, rfl⟩
          have HML := Lib.hid hn
          rw [hn] at hnl HC HO HO2 ⊢
          clear hn
          have c0 := HT.out.cell0
          have c1 := HT.out.cell1
          rcases HC.out with ⟨h0, hri⟩ | ⟨n', x, hnm, hnn, hx, hls, hri⟩ | ⟨n', x, hnm, hnn, hx, hls, hbad⟩
          · have hd : ¬ 0 < n := by omega
            have HRI := Lib.hid hri
            clear hri h0 HC
            go_wp2
            go_quiet (fail)
            have hown := HO2.out.below (below_drewN (Below.refl _ _) nq)
            unfold OwnP at hown
            rw [HML.out] at hown
            have hsz2 := HBw.out.size
            go_wp2_with (at_builtin; refine wpList_append_own _ rfl (.tmp 67) (.tmp 73) 22 rfl w.heap.size 39 i0 _ 2 32 Try.underlying22 hi hz0 hz1 hz2 rfl (by decide) _ _ _ rfl (hown.alloc _) ⟨_, 0, none⟩ 1 1 [.string k, .string l] rfl rfl (pair_new _ _ _ _) (two_one _ _) (by unfold maxLen; omega) (by omega) (by simp; omega) ?_)
            intro v3 w3 hown3 hgrow3 _
            have HO3 : Hid (OwnP w3 w.heap.size v3 (M ++ [(k, l)])) := Lib.hid (by
              unfold OwnP
              rw [cellsP_append, List.length_append, HML.out]
              exact hown3)
            have hgr := (World.grownBy_alloc _ (.cells #[.string k, .string l] 39) _).trans hgrow3
            have HB3 := Lib.hid ((below_drewN HBw.out nq).grown hgr hsz2 (fun g e => (hown.lt g e).1))
            clear hown3 hgrow3 hown hgr hsz2
            go_wp2
            go_roundw
            case rel => exact ⟨u, _, hu, rfl, HO3, Lib.hid HTK.out.1, HRI, HB3⟩
            case measure => simp [intOf]; omega
          · have hd : 0 < n := by omega
            have HRI := Lib.hid hri
            obtain ⟨b, o, rfl, d0, _⟩ := HO2.out.ps.at hx
            have hnk : (n' : Int) < (n : Int) := by omega
            clear hri hx HC
            go_wp2
            go_quiet (fail)
            have hown := HO2.out.below (below_drewN (Below.refl _ _) nq)
            unfold OwnP at hown
            rw [HML.out] at hown
            have hsz2 := HBw.out.size
            go_wp2_with (at_builtin; refine wpList_append_own _ rfl (.tmp 67) (.tmp 73) 22 rfl w.heap.size 39 i0 _ 2 32 Try.underlying22 hi hz0 hz1 hz2 rfl (by decide) _ _ _ rfl (hown.alloc _) ⟨_, 0, none⟩ 1 1 [.string k, .string l] rfl rfl (pair_new _ _ _ _) (two_one _ _) (by unfold maxLen; omega) (by omega) (by simp; omega) ?_)
            intro v3 w3 hown3 hgrow3 _
            have HO3 : Hid (OwnP w3 w.heap.size v3 (M ++ [(k, l)])) := Lib.hid (by
              unfold OwnP
              rw [cellsP_append, List.length_append, HML.out]
              exact hown3)
            have hgr := (World.grownBy_alloc _ (.cells #[.string k, .string l] 39) _).trans hgrow3
            have HB3 := Lib.hid ((below_drewN HBw.out nq).grown hgr hsz2 (fun g e => (hown.lt g e).1))
            clear hown3 hgrow3 hown hgr hsz2
            go_wp2
            go_roundw
            case rel => exact ⟨u, _, hu, rfl, HO3, Lib.hid HTK.out.1, HRI, HB3⟩
            case measure => simp [intOf]; omega
          · have hd : 0 < n := by omega
            have HN := Lib.hid hbad
            obtain ⟨b, o, rfl, d0, _⟩ := HO2.out.ps.at hx
            have hnk : (n' : Int) < (n : Int) := by omega
            clear hbad hx HC
            go_wp2
            go_quiet (fail)
            go_wp2
            go_ret2
            exact ⟨Or.inr ⟨HN.out, rfl⟩, below_drewN HBw.out _⟩
    · obtain rfl : t = s.size := by omega
      have HM2 : Hid (encs M = bys s) := Lib.hid (by rw [HM.out, List.take_of_length_le (by rw [bys_length]; exact Nat.le_refl _)])
      have hge := encs_ge (M := M)
      rw [HM2.out, bys_length] at hge
      obtain ⟨pM, cM, rfl⟩ := HO.out.shape
      have HR := Lib.hid (fun W (h : PsC W (.slice pM M.length cM) M) => refRight_any M pM cM (by omega) (fun x hx => by have := hge.2 x hx; omega) W h)
      have HP := Lib.hid HO.out.ps
      have HC : Hid ((rightP M = true ∧ OkS s ∧ Own.rd 8 s = M) ∨ (rightP M = false ∧ ¬ OkS s)) := Lib.hid (by
        cases h : rightP M with
        | true => exact Or.inl ⟨rfl, ok_mk h HS.out HM2.out.symm⟩
        | false => exact Or.inr ⟨rfl, bad_end HM2.out h⟩)
      obtain ⟨n, hn⟩ : ∃ n, M.length = n := ⟨_, rfl⟩
      rw [hn] at HR HP hge ⊢
      clear hn hge
      rcases HC.out with ⟨h, hok, hrd⟩ | ⟨h, hok⟩
      · rw [h] at HR
        have HOK := Lib.hid hok
        have HRD := Lib.hid hrd
        clear h hok hrd HC
        go_wp2_with fail
        refine (HR.out wo HP.out).mono ?_
        rintro e w1 ⟨rfl, hb⟩
        have HP1 := Lib.hid (HP.out.below hb)
        have HB1 := Lib.hid (HB.out.trans (hb.mono HB.out.size))
        clear hb
        go_wp2
        go_ret2
        exact ⟨Or.inl ⟨HOK.out, _, rfl, by rw [HRD.out]; exact HP1.out⟩, HB1.out⟩
      · rw [h] at HR
        have HOK := Lib.hid hok
        clear h hok HC
        go_wp2_with fail
        refine (HR.out wo HP.out).mono ?_
        rintro e w1 ⟨rfl, hb⟩
        have HB1 := Lib.hid (HB.out.trans (hb.mono HB.out.size))
        clear hb
        go_wp2
        go_ret2
        exact ⟨Or.inr ⟨HOK.out, rfl⟩, HB1.out⟩
end Go.Proofs.Ytbfcbffmgdijfaa

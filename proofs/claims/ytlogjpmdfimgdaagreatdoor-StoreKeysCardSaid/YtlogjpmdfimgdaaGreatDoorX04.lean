/- Of: the document's value as one that is told by its type, by contract. No condition but that it is small enough. | A value read off a text: texts and lists; by contract. No condition but the sizes. | A list read off a text, by contract. No condition but the sizes. | A value read off a text; Parse: by contract. No condition but the sizes. | Parse, by contract. No condition but the text's size. | A number's bytes behind others, by contract. No condition but the sizes. -/
import Derived.Test.YtlogjpmdfimgdaaGreatDoorX03
import Derived.Test.YtlogjpmdfimgdaaGreatDoorX02
import Derived.IntWalk
namespace Go.Proofs.YtlogjpmdfimgdaaGreatDoor
open Go.RowKit Go.Own
/-- The answer is a, in new memory. -/
def NewA (a : A) (w : World) (e : Ending) (w' : World) : Prop := ∃ r, e = .returned r ∧ AAt w' (fun b => w.heap.size ≤ b) r a ∧ Below w.heap.size w w'
theorem fewV_parts {k n : Int} {s : ByteArray} {b : Bool} {l : List V} {d : Nat} (h : fewV (.mk k n s b l) d = true) : s.size ≤ 70000 ∧ l.length ≤ 300 ∧ ∀ x ∈ l, fewV x (d + 1) = true := by
  rcases few_cases k n s b l d with ⟨hf, _⟩ | ⟨hf, _⟩ | ⟨hf, _⟩ | ⟨hf, _⟩ | ⟨h1, h2, h3, h4, hf⟩ | ⟨h1, h2, h3, h4, h5, hf⟩
  · rw [h] at hf; cases hf
  · rw [h] at hf; cases hf
  · rw [h] at hf; cases hf
  · rw [h] at hf; cases hf
  · rw [hf, List.all_eq_true] at h; exact ⟨h2, h3, h⟩
  · rw [hf, List.all_eq_true] at h; exact ⟨h2, h3, h⟩
theorem take_snoc {l : List A} {j : Nat} {x : A} (h : l[j]? = some x) : l.take (j + 1) = l.take j ++ [x] := by
  rw [List.take_add_one, h]; rfl
theorem kinds (k : Int) : k = 1 ∨ k = 2 ∨ k = 3 ∨ k = 4 ∨ (k ≠ 1 ∧ k ≠ 2 ∧ k ≠ 3 ∧ k ≠ 4) := by omega
set_option maxRecDepth 100000 in
set_option maxHeartbeats 1000000 in
theorem of_any (x : V) : ∀ (d : Nat) (v : Value) (w : World), fewV x d = true → Holds w v x → Calls Tryz.prog 20 #[v] w (NewA (ofV x) w) := by
  induction x using V.ind with
  | h k n s b l ih =>
    intro d v w hf hv
    obtain ⟨p, cap, hp⟩ := VAt.parts hv
    obtain ⟨hf1, hf2, hf3⟩ := fewV_parts hf
    obtain ⟨rfl, _, hn, hs, hle, hcap, hsub⟩ := hp
    clear hf
    rcases kinds k with rfl | rfl | rfl | rfl | ⟨k1, k2, k3, k4⟩
    · have HE : Hid (ofV (.mk 1 n s b l) = .num n) := Lib.hid (by simp [ofV])
      have HN := Lib.hid hn
      clear hv ih hsub hf3 hn
      go_enter Tryz.func20, Tryz.ntmps20
      go_wp2
      go_ret
      exact ⟨_, rfl, by rw [HE.out]; exact .num n HN.out, (Below.refl _ w).alloc (Nat.le_refl _) _⟩
    · have HE : Hid (ofV (.mk 2 n s b l) = .str s) := Lib.hid (by simp [ofV])
      clear hv ih hsub hf3 hn
      go_enter Tryz.func20, Tryz.ntmps20
      go_wp2
      go_ret
      exact ⟨_, rfl, by rw [HE.out]; exact .str s hs, (Below.refl _ w).alloc (Nat.le_refl _) _⟩
    · have HE : Hid (ofV (.mk 3 n s b l) = .bool b) := Lib.hid (by simp [ofV])
      clear hv ih hsub hf3 hn
      go_enter Tryz.func20, Tryz.ntmps20
      go_wp2
      go_ret
      exact ⟨_, rfl, by rw [HE.out]; exact .bool b, (Below.refl _ w).alloc (Nat.le_refl _) _⟩
    · have HE : Hid (ofV (.mk 4 n s b l) = .list (l.map ofV)) := Lib.hid (by simp [ofV, ofVs_map])
      obtain ⟨m, hm⟩ : ∃ m, l.length = m := ⟨_, rfl⟩
      rw [hm] at hle hf2 ⊢
      have HM := Lib.hid hm
      have HI := Lib.hid ih
      have HSUB := Lib.hid hsub
      have HF3 := Lib.hid hf3
      clear hv ih hsub hf3 hn hm
      go_enter Tryz.func20, Tryz.ntmps20
      go_wp2
      have HW0 : Hid (Below w.heap.size w (w.alloc (.cells #[.int .i64 4, .int .i64 n, .string s, .bool b, .slice p m cap] 59))) := Lib.hid ((Below.refl _ w).alloc (Nat.le_refl _) _)
      have HC4 : Hid ((w.alloc (.cells #[.int .i64 4, .int .i64 n, .string s, .bool b, .slice p m cap] 59)).cell? ⟨w.heap.size, 4, none⟩ = some (.slice p m cap)) := Lib.hid (cell_new _ _ _ _)
      have HZ0 : Hid ((w.alloc (.cells #[.int .i64 4, .int .i64 n, .string s, .bool b, .slice p m cap] 59)).heap.size = w.heap.size + 1) := Lib.hid (by simp)
      generalize w.alloc (.cells #[.int .i64 4, .int .i64 n, .string s, .bool b, .slice p m cap] 59) = W0 at *
      go_loopw [3, 4] (fun o i wr => ∃ j : Nat, j ≤ m ∧ i = .int .i64 (j : Int) ∧ Hid (RowA wr (w.heap.size + 1) o ((l.map ofV).take j)) ∧ Hid (Below (w.heap.size + 1) W0 wr)) (fun _ i _ => m - (intOf i).toNat)
      case atStart =>
        refine ⟨0, Nat.zero_le _, rfl, Lib.hid ?_, Lib.hid ?_⟩
        · have h := RowA.made (w := W0) (B := w.heap.size + 1) (by rw [HZ0.out]; omega) #[] 0 (by omega) rfl
          rw [HZ0.out] at h
          simpa using h
        · exact (Below.refl _ _).alloc (by rw [HZ0.out]; omega) _
      case round =>
        obtain ⟨j, hj, rfl, HR, HB⟩ := hrel
        have c4 : wr.cell? ⟨w.heap.size, 4, none⟩ = some (.slice p m cap) := by rw [HB.out.cell (p := ⟨w.heap.size, 4, none⟩) (by simp)]; exact HC4.out
        have HBW : Hid (Below w.heap.size w wr) := Lib.hid (HW0.out.trans (HB.out.mono (by omega)))
        have hzr : w.heap.size + 1 ≤ wr.heap.size := by have := HB.out.size; rw [HZ0.out] at this; exact this
        have HLJ : Hid (((l.map ofV).take j).length = j) := Lib.hid (by rw [List.length_take, List.length_map, HM.out]; omega)
        by_cases hlt : j < m
        · obtain ⟨x, hx⟩ : ∃ x, l[j]? = some x := ⟨_, List.getElem?_eq_getElem (by rw [HM.out]; exact hlt)⟩
          obtain ⟨g, o, t0, t1, t2, t3, t4, rfl, _, hg, hvx, e0, e1, e2, e3, e4⟩ := HSUB.out j x hx
          have hk : ∀ i, wr.cell? ⟨g, i, none⟩ = w.cell? ⟨g, i, none⟩ := fun i => HBW.out.cell (p := ⟨g, i, none⟩) hg
          rw [← hk] at e0 e1 e2 e3 e4
          have HC : Hid (Calls Tryz.prog 20 #[.agg #[t0, t1, t2, t3, t4]] wr (NewA (ofV x) wr)) :=
            Lib.hid (HI.out x (List.mem_of_getElem? hx) (d + 1) _ wr (HF3.out x (List.mem_of_getElem? hx)) (Holds.below hvx.holds HBW.out))
          have HX : Hid ((l.map ofV).take (j + 1) = (l.map ofV).take j ++ [ofV x]) := Lib.hid (take_snoc (by simp [hx]))
          obtain ⟨y, hy⟩ : ∃ y, ofV x = y := ⟨_, rfl⟩
          rw [hy] at HC HX
          clear hk hvx hx hy
          have hbl := HR.out.lt
          go_wp2_with (go_at_call 20; fail)
          refine HC.out.mono ?_
          rintro e w1 ⟨r, rfl, hr, hb1⟩
          have HR1 := Lib.hid (HR.out.below hb1)
          have HB1 : Hid (Below (w.heap.size + 1) W0 w1) := Lib.hid (HB.out.trans (hb1.mono hzr))
          have hz1r : wr.heap.size ≤ w1.heap.size := hb1.size
          have HY1 : Hid (AAt w1 (fun b => w.heap.size + 1 ≤ b ∧ u3.ownBlock ≠ some b) r y) := Lib.hid (hr.keep (fun b hb _ => ⟨by omega, fun e => by have := (hbl b e).2; omega⟩) (Nat.le_refl _) (fun _ _ _ => rfl))
          have hform := hr.form
          clear hr hb1 hbl
          rcases hform with ⟨ty, u, rfl⟩ | rfl
          all_goals
            go_wp2_with (at_builtin; refine wpList_push rfl (.tmp 32) (.tmp 39) rfl w1 (w.heap.size + 1) _ _ y _ rfl rfl HR1.out HY1.out rfl (by rw [HLJ.out]; omega) (by omega) ?_)
            intro v2 w2 hr2 hb2
            have HR2 : Hid (RowA w2 (w.heap.size + 1) v2 ((l.map ofV).take (j + 1))) := Lib.hid (by rw [HX.out]; exact hr2)
            have HB2 : Hid (Below (w.heap.size + 1) W0 w2) := Lib.hid (HB1.out.trans hb2)
            clear hr2 hb2
            go_wp2
            go_roundw
            case rel => exact ⟨j + 1, by omega, by go_num, HR2, HB2⟩
            case measure => simp [intOf]; omega
        · obtain rfl : j = m := by omega
          have HF : Hid (AAt wr (fun b => w.heap.size + 1 ≤ b) (.iface 67 u3) (.list (l.map ofV))) := Lib.hid (by
            have h := HR.out.has
            rwa [List.take_of_length_le (by rw [List.length_map, HM.out]; exact Nat.le_refl _)] at h)
          go_wp2
          go_ret
          exact ⟨_, rfl, by rw [HE.out]; exact HF.out.keep (fun b hb _ => by omega) (Nat.le_refl _) (fun _ _ _ => rfl), HBW.out⟩
    · have HE : Hid (ofV (.mk k n s b l) = .none) := Lib.hid (by simp [ofV, k1, k2, k3, k4])
      have e1 : (k == 1) = false := by simp [k1]
      have e2 : (k == 2) = false := by simp [k2]
      have e3 : (k == 3) = false := by simp [k3]
      have e4 : (k == 4) = false := by simp [k4]
      clear hv ih hsub hf3 hn k1 k2 k3 k4
      go_enter Tryz.func20, Tryz.ntmps20
      go_wp2
      go_ret
      exact ⟨_, rfl, by rw [HE.out]; exact .none, (Below.refl _ w).alloc (Nat.le_refl _) _⟩
end Go.Proofs.YtlogjpmdfimgdaaGreatDoor
namespace Go.Proofs.YtlogjpmdfimgdaaGreatDoor
open Go.RowKit Go.Own
/-- What is read, or nothing. -/
def ReadQ (B : Nat) (r : Option (A × List Nat)) (w : World) (e : Ending) (w' : World) : Prop :=
  (∃ a t' v, r = some (a, t') ∧ e = .returned (.tuple #[v, .bool true]) ∧ AAt w' (fun b => w.heap.size ≤ b) v a ∧ Box w' B (mkS t') ∧ w.grownBy w' (some B)) ∨
  (r = none ∧ ∃ v s, e = .returned (.tuple #[v, .bool false]) ∧ Box w' B s ∧ w.grownBy w' (some B))
theorem ReadQ.ok {B : Nat} {a : A} {t : List Nat} {v : Value} {w w' : World} (h1 : AAt w' (fun b => w.heap.size ≤ b) v a) (h2 : Box w' B (mkS t)) (h3 : w.grownBy w' (some B)) : ReadQ B (some (a, t)) w (.returned (.tuple #[v, .bool true])) w' :=
  Or.inl ⟨a, t, v, rfl, rfl, h1, h2, h3⟩
theorem ReadQ.no {B : Nat} {v : Value} {s : ByteArray} {w w' : World} (h2 : Box w' B s) (h3 : w.grownBy w' (some B)) : ReadQ B none w (.returned (.tuple #[v, .bool false])) w' :=
  Or.inr ⟨rfl, v, s, rfl, h2, h3⟩
theorem grown_below {w w1 w2 : World} {B B0 : Nat} (h : w.grownBy w1 (some B)) (hb : Below B0 w1 w2) (h0 : w.heap.size ≤ B0) : w.grownBy w2 (some B) :=
  ⟨hb.os.trans h.os, hb.tape.trans h.tape, hb.output.trans h.output, Nat.le_trans h.size hb.size, fun k hk hne => by
    rw [hb.block k (by omega)]; exact h.block k hk hne⟩
theorem grown_two {w w1 w2 : World} {B : Nat} (h : w.grownBy w1 (some B)) (k : w1.grownBy w2 (some B)) : w.grownBy w2 (some B) :=
  ⟨k.os.trans h.os, k.tape.trans h.tape, k.output.trans h.output, Nat.le_trans h.size k.size, fun i hi hne => by
    rw [k.block i (Nat.lt_of_lt_of_le hi h.size) hne]; exact h.block i hi hne⟩
theorem RowA.past {w w' : World} {B B0 : Nat} {v : Value} {l : List A} (h : RowA w B0 v l) (hg : w.grownBy w' (some B)) (hB : B < B0) : RowA w' B0 v l := by
  have hlt := h.lt
  obtain ⟨us, h1, h2⟩ := h
  refine ⟨us, h1.kept hg (by
    cases hv : v.ownBlock with
    | none => exact Or.inl rfl
    | some g => exact Or.inr (by simp; have := (hlt g hv).1; omega)), fun i x hx => ?_⟩
  obtain ⟨u, hu, ha⟩ := h2 i x hx
  exact ⟨u, hu, ha.keep (fun _ h _ => h) hg.size (fun b hb hlt => hg.block b hlt (by simp; omega))⟩
/-- The text that is told at a text's head. -/
def textR (t : List Nat) : Option (A × List Nat) :=
  if t.length < 2 then none else if t.length - 2 < val (t.take 2) then none else some (.str (mkS ((t.drop 2).take (val (t.take 2)))), (t.drop 2).drop (val (t.take 2)))
set_option maxRecDepth 100000 in
set_option maxHeartbeats 1000000 in
theorem rtext_any (B : Nat) (t : List Nat) (hb : ∀ c ∈ t, c < 256) (w : World) (hB : Box w B (mkS t)) :
    Calls Tryz.prog 116 #[.func (.func 114) #[] #[.pointer (some ⟨B, 0, none⟩)]] w (ReadQ B (textR t) w) := by
  by_cases h : t.length < 2
  · have HE : Hid (textR t = none) := Lib.hid (by rw [textR, if_pos h])
    have HT := Lib.hid (num_no B 2 (mkS t) (by rw [mkS_size]; exact h) w hB)
    have HB := Lib.hid hB
    clear hB
    go_enter Tryz.func116, Tryz.ntmps116
    go_wp2_with (go_at_call 115; fail)
    refine HT.out.mono ?_
    rintro e w' ⟨rfl, rfl⟩
    go_wp2
    go_ret2
    rw [HE.out]
    exact ReadQ.no HB.out (grown_refl _ _)
  · have HT := Lib.hid (num_yes B 2 t hb (by omega) (by omega) w hB)
    have hvl : val (t.take 2) < 65536 := by
      have h1 := val_lt (t.take 2) (fun c hc => hb c (List.mem_of_mem_take hc))
      rw [show (t.take 2).length = 2 by rw [List.length_take]; omega] at h1
      exact h1
    have HE : Hid (textR t = if t.length - 2 < val (t.take 2) then none else some (.str (mkS ((t.drop 2).take (val (t.take 2)))), (t.drop 2).drop (val (t.take 2)))) := Lib.hid (by rw [textR, if_neg h])
    obtain ⟨n, hn⟩ : ∃ n, val (t.take 2) = n := ⟨_, rfl⟩
    obtain ⟨r, hr⟩ : ∃ r, t.drop 2 = r := ⟨_, rfl⟩
    have hrl : r.length = t.length - 2 := by rw [← hr, List.length_drop]
    rw [hn] at HT HE hvl
    rw [hr] at HT HE
    rw [← hrl] at HE
    clear hB hn hr hrl h
    by_cases h2 : r.length < n
    · have HTN := Lib.hid (fun w hB => take_no B n (mkS r) (by rw [mkS_size]; exact h2) w hB)
      have HCL := Lib.hid (clone_any { data := #[] } (by simp [ByteArray.size]))
      have HE2 : Hid (textR t = none) := Lib.hid (by rw [HE.out, if_pos h2])
      clear h2
      go_enter Tryz.func116, Tryz.ntmps116
      go_wp2_with (go_at_call 115; fail)
      refine HT.out.mono ?_
      rintro e w1 ⟨rfl, hb1, hg1⟩
      have HB1 := Lib.hid hb1
      have HG1 := Lib.hid hg1
      clear hb1 hg1
      go_wp2_with (go_at_call 114; fail)
      refine (HTN.out _ HB1.out).mono ?_
      rintro e w' ⟨rfl, rfl⟩
      go_wp2_with (go_at_call 70; fail)
      refine (HCL.out _).mono ?_
      rintro e w2 ⟨rfl, hb2⟩
      have HB2 := Lib.hid (HB1.out.below hb2)
      have HG2 := Lib.hid (grown_below HG1.out hb2 HG1.out.size)
      clear hb2
      go_wp2
      go_ret2
      rw [HE2.out]
      exact ReadQ.no HB2.out HG2.out
    · have HTY := Lib.hid (fun w hB => take_ok B n r (by omega) w hB)
      have HCL := Lib.hid (clone_any (mkS (r.take n)) (by rw [mkS_size, List.length_take]; omega))
      have HE2 : Hid (textR t = some (.str (mkS (r.take n)), r.drop n)) := Lib.hid (by rw [HE.out, if_neg h2])
      have HSZ : Hid ((mkS (r.take n)).size ≤ 9223372036854775807) := Lib.hid (by rw [mkS_size, List.length_take]; omega)
      obtain ⟨q, hq⟩ : ∃ q, mkS (r.take n) = q := ⟨_, rfl⟩
      rw [hq] at HTY HCL HE2 HSZ
      clear h2 hq
      go_enter Tryz.func116, Tryz.ntmps116
      go_wp2_with (go_at_call 115; fail)
      refine HT.out.mono ?_
      rintro e w1 ⟨rfl, hb1, hg1⟩
      have HB1 := Lib.hid hb1
      have HG1 := Lib.hid hg1
      clear hb1 hg1
      go_wp2_with (go_at_call 114; fail)
      refine (HTY.out _ HB1.out).mono ?_
      rintro e w2 ⟨rfl, hb2, hg2⟩
      have HB2 := Lib.hid hb2
      have HG2 := Lib.hid (grown_two HG1.out hg2)
      clear hb2 hg2
      go_wp2_with (go_at_call 70; fail)
      refine (HCL.out _).mono ?_
      rintro e w3 ⟨rfl, hb3⟩
      have HB3 := Lib.hid (HB2.out.below hb3)
      have HG3 := Lib.hid (grown_below HG2.out hb3 HG2.out.size)
      clear hb3
      go_wp2
      go_ret2
      rw [HE2.out]
      exact ReadQ.ok (.str q HSZ.out) HB3.out HG3.out
end Go.Proofs.YtlogjpmdfimgdaaGreatDoor
namespace Go.Proofs.YtlogjpmdfimgdaaGreatDoor
open Go.RowKit Go.Own
theorem rdL_stop {f : List Nat → Option (A × List Nat)} {t : List Nat} (h : f t = none) {n j : Nat} (hlt : j < n) : rdL f (n - j) t = none := by
  obtain ⟨q, hq⟩ : ∃ q, n - j = q + 1 := ⟨n - j - 1, by omega⟩
  rw [hq, rdL, h]
theorem rdL_go {f : List Nat → Option (A × List Nat)} {t t' : List Nat} {x : A} (h : f t = some (x, t')) {n j : Nat} (hlt : j < n) (xs : List A) :
    (rdL f (n - j) t).map (fun q => (xs ++ q.1, q.2)) = (rdL f (n - (j + 1)) t').map fun q => ((xs ++ [x]) ++ q.1, q.2) := by
  obtain ⟨q, hq⟩ : ∃ q, n - j = q + 1 := ⟨n - j - 1, by omega⟩
  rw [hq, rdL, h, show n - (j + 1) = q by omega]
  simp only
  cases rdL f q t' with
  | none => rfl
  | some p => simp
/-- An empty row is made. -/
theorem wpList_makeA {ops : Array Oper} {rest : List Oper} {o : Oper} {a : Act} {Q : Exit → Act → World → Prop} {w : World} (hg : o.guard = none) (l c : Operand) (hop : o.op = Op.makeSlice 67 l c)
    (B : Nat) (kl kc : IntKind) (C : Int) (n : Nat) (hl : a.eval l = .int kl 0) (hc : a.eval c = .int kc C) (hC : C = (n : Int)) (hn : n ≤ 1000000) (hB : B ≤ w.heap.size)
    (hK : ∀ v w', RowA w' B v [] → Below w.heap.size w w' → wpList Tryz.prog ops Q rest (a.put o.dst v) w') : wpList Tryz.prog ops Q (o :: rest) a w := by
  obtain ⟨i0, hi, hz0, hz1, hz2⟩ := info_parts info20
  refine wpList_make_own w hg l c 67 hop B 20 i0 .nilIface 1 Tryz.underlying67 hi hz0 hz1 kl kc C n hl hc hC (by rw [hz2]; omega) (by unfold maxLen; omega) hB ?_
  intro w' h1 h2
  exact hK _ w' ⟨[], h1, fun i x hx => by simp at hx⟩ ⟨h2.os, h2.tape, h2.output, h2.size, fun k hk => h2.block k hk (by simp)⟩
/-- Nothing is read. -/
def ReadNo (B : Nat) (w : World) (e : Ending) (w' : World) : Prop := ∃ v s, e = .returned (.tuple #[v, .bool false]) ∧ Box w' B s ∧ w.grownBy w' (some B)
set_option maxRecDepth 100000 in
set_option maxHeartbeats 1000000 in
theorem rlist_bad (B : Nat) (t : List Nat) (hb : ∀ c ∈ t, c < 256) (z : Int) (h : t = [] ∨ 8 < z) (w : World) (hB : Box w B (mkS t)) :
    Calls Tryz.prog 117 #[.func (.func 114) #[] #[.pointer (some ⟨B, 0, none⟩)], .int .i64 z] w (ReadNo B w) := by
  cases t with
  | nil =>
    have HT := Lib.hid (num_no B 1 (mkS []) (by rw [mkS_size]; exact Nat.zero_lt_one) w hB)
    have HB := Lib.hid hB
    clear hB h
    go_enter Tryz.func117, Tryz.ntmps117
    go_wp2_with (go_at_call 115; fail)
    refine HT.out.mono ?_
    rintro e w' ⟨rfl, rfl⟩
    go_wp2
    go_ret2
    exact ⟨_, _, rfl, HB.out, grown_refl _ _⟩
  | cons n t =>
    have hz : 8 < z := by rcases h with h | h; cases h; exact h
    have HT := Lib.hid (num_yes B 1 (n :: t) hb (by omega) (by simp) w hB)
    have hd : decide (8 < z) = true := by simp [hz]
    clear hB h hz
    go_enter Tryz.func117, Tryz.ntmps117
    go_wp2_with (go_at_call 115; fail)
    refine HT.out.mono ?_
    rintro e w1 ⟨rfl, hb1, hg1⟩
    have HB1 := Lib.hid hb1
    have HG1 := Lib.hid hg1
    clear hb1 hg1
    go_wp2
    go_ret2
    exact ⟨_, _, rfl, HB1.out, HG1.out⟩
/-- What 'read' does where so many lists may stand within one another. -/
def ReadsB (m : Nat) : Prop := ∀ (t : List Nat) (B : Nat) (w : World) (z : Int), (∀ c ∈ t, c < 256) → z + m = 8 → Box w B (mkS t) → Calls Tryz.prog 77 #[.func (.func 114) #[] #[.pointer (some ⟨B, 0, none⟩)], .int .i64 z] w (ReadQ B (rd m t) w)
set_option maxRecDepth 100000 in
set_option maxHeartbeats 1000000 in
theorem rlist_any (m : Nat) (hm : m ≤ 8) (ih : ReadsB m) (B : Nat) (n : Nat) (t : List Nat) (hb : ∀ c ∈ n :: t, c < 256) (z : Int) (hz : z + m = 8) (w : World) (hB : Box w B (mkS (n :: t))) :
    Calls Tryz.prog 117 #[.func (.func 114) #[] #[.pointer (some ⟨B, 0, none⟩)], .int .i64 z] w (ReadQ B (listR (some (rd m)) (n :: t)) w) := by
  have HT := Lib.hid (num_yes B 1 (n :: t) hb (by omega) (by simp) w hB)
  have hv : val ((n :: t).take 1) = n := by simp [val]
  have hdr : (n :: t).drop 1 = t := rfl
  rw [hv, hdr] at HT
  have hd : decide (8 < z) = false := by simp; omega
  have hn : n < 256 := hb n (by simp)
  have HTB : Hid (∀ c ∈ t, c < 256) := Lib.hid (fun c hc => hb c (by simp [hc]))
  have HZ := Lib.hid hz
  have HBL := hB.lt
  clear hB hb hv hdr hz
  go_enter Tryz.func117, Tryz.ntmps117
  go_wp2_with (go_at_call 115; fail)
  refine HT.out.mono ?_
  rintro e w1 ⟨rfl, hb1, hg1⟩
  have HB1 := Lib.hid hb1
  have HG1 := Lib.hid hg1
  clear hb1 hg1
  go_wp2_with (at_make; refine wpList_makeA rfl _ _ rfl w1.heap.size .i64 .u64 (n : Int) n rfl rfl rfl (by omega) (Nat.le_refl _) ?_)
  intro v2 w2 hr2 hb2
  have HR2 := Lib.hid hr2
  have HB2 := Lib.hid (HB1.out.below hb2)
  have HG2 : Hid (w1.grownBy w2 (some B)) := Lib.hid (grown_of_below hb2 _)
  clear hr2 hb2
  go_wp2
  go_loopw [8, 25] (fun o i wr => ∃ (j : Nat) (xs : List A) (tj : List Nat), j ≤ n ∧ i = .int .u64 (j : Int) ∧ Hid (RowA wr w1.heap.size o xs) ∧ Hid (xs.length = j) ∧ Hid (Box wr B (mkS tj)) ∧ Hid (∀ c ∈ tj, c < 256) ∧ Hid (w1.grownBy wr (some B)) ∧
    Hid (rdL (rd m) n t = (rdL (rd m) (n - j) tj).map fun q => (xs ++ q.1, q.2))) (fun _ i _ => n - (intOf i).toNat)
  case atStart => exact ⟨0, [], t, Nat.zero_le _, rfl, HR2, Lib.hid rfl, HB2, HTB, HG2, Lib.hid (by simp)⟩
  case round =>
    obtain ⟨j, xs, tj, hj, rfl, HR, HXL, HB, HTJ, HG, HE⟩ := hrel
    have hw1r : w1.heap.size ≤ wr.heap.size := HG.out.size
    have hBw1 : B < w1.heap.size := HB1.out.lt
    by_cases hlt : j < n
    · have HC := Lib.hid (ih tj B wr z HTJ.out HZ.out HB.out)
      obtain ⟨r, hr⟩ : ∃ r, rd m tj = r := ⟨_, rfl⟩
      have HRR := Lib.hid hr
      rw [hr] at HC
      clear hr
      go_wp2_with (go_at_call 77; fail)
      refine HC.out.mono ?_
      intro e w3 hrq
      rcases hrq with ⟨x, t', v, rfl, rfl, hv, hb3, hg3⟩ | ⟨rfl, v, s, rfl, hb3, hg3⟩
      · have HE2 : Hid (rdL (rd m) n t = (rdL (rd m) (n - (j + 1)) t').map fun q => ((xs ++ [x]) ++ q.1, q.2)) := Lib.hid (by rw [HE.out]; exact rdL_go HRR.out hlt xs)
        have HT2 : Hid (∀ c ∈ t', c < 256) := Lib.hid (fun c hc => by
          have hw := pr_rd m hm tj HTJ.out x t' HRR.out
          exact HTJ.out c (by rw [hw.text]; simp [hc]))
        have HR3 := Lib.hid (HR.out.past hg3 hBw1)
        have hbl := HR.out.lt
        have HV : Hid (AAt w3 (fun b => w1.heap.size ≤ b ∧ u8.ownBlock ≠ some b) v x) := Lib.hid (hv.keep (fun b hb _ => ⟨by omega, fun e => by have := (hbl b e).2; omega⟩) (Nat.le_refl _) (fun _ _ _ => rfl))
        have HB3 := Lib.hid hb3
        have HG3 := Lib.hid (grown_two HG.out hg3)
        have hform := hv.form
        have hw13 : w1.heap.size ≤ w3.heap.size := HG3.out.size
        have HXB : Hid (xs.length ≤ 1000000) := Lib.hid (by rw [HXL.out]; omega)
        clear hv hb3 hg3 hbl
        rcases hform with ⟨ty, u, rfl⟩ | rfl
        all_goals
          go_wp2_with (at_builtin; refine wpList_push rfl (.tmp 35) (.tmp 37) rfl w3 w1.heap.size _ _ x _ rfl rfl HR3.out HV.out rfl HXB.out hw13 ?_)
          intro v4 w4 hr4 hb4
          have HR4 := Lib.hid hr4
          have HB4 : Hid (Box w4 B (mkS t')) := Lib.hid ((hb4.block B hBw1).trans HB3.out)
          have HG4 := Lib.hid (grown_below HG3.out hb4 (Nat.le_refl _))
          have HXL4 : Hid ((xs ++ [x]).length = j + 1) := Lib.hid (by rw [List.length_append, HXL.out]; rfl)
          clear hr4 hb4
          go_wp2
          go_roundw
          case rel => exact ⟨j + 1, _, t', by omega, by go_num, HR4, HXL4, HB4, HT2, HG4, HE2⟩
          case measure => simp [intOf]; omega
      · have HE2 : Hid (listR (some (rd m)) (n :: t) = none) := Lib.hid (by
          have h : rdL (rd m) n t = none := by rw [HE.out, rdL_stop HRR.out hlt]; rfl
          simp only [listR, h])
        have HB3 := Lib.hid hb3
        have HG3 := Lib.hid (grown_two HG1.out (grown_two HG.out hg3))
        clear hb3 hg3
        go_wp2
        go_ret2
        rw [HE2.out]
        exact ReadQ.no HB3.out HG3.out
    · obtain rfl : j = n := by omega
      have HE2 : Hid (listR (some (rd m)) (j :: t) = some (.list xs, tj)) := Lib.hid (by
        have h : rdL (rd m) j t = some (xs, tj) := by rw [HE.out, Nat.sub_self]; simp [rdL]
        simp only [listR, h])
      have HV : Hid (AAt wr (fun b => w.heap.size ≤ b) (.iface 67 u8) (.list xs)) := Lib.hid (HR.out.has.keep (fun b hb _ => Nat.le_trans HG1.out.size hb) (Nat.le_refl _) (fun _ _ _ => rfl))
      have HG3 := Lib.hid (grown_two HG1.out HG.out)
      go_wp2
      go_ret2
      rw [HE2.out]
      exact ReadQ.ok HV.out HB.out HG3.out
end Go.Proofs.YtlogjpmdfimgdaaGreatDoor
namespace Go.Proofs.YtlogjpmdfimgdaaGreatDoor
open Go.RowKit Go.Own
theorem str_one (c : Nat) (h : c < 256) (W : World) : (Instr.index 9 (.string (mkS [c])) (.int .i64 0)).run Tryz.prog W = .ok (.int .u8 (c : Int)) W := by
  have := gi_mkS [c] 0 (by simp) (fun x hx => by simp at hx; omega) W
  exact this
/-- What a text's head is, where no list stands. -/
theorem body_cases (g : Option (List Nat → Option (A × List Nat))) (c : Nat) (t : List Nat) :
    (c = 105 ∧ body g (c :: t) = if t.length < 8 then none else some (.num (s64 (val (t.take 8))), t.drop 8)) ∨ (c = 115 ∧ body g (c :: t) = textR t) ∨ (c = 121 ∧ body g (c :: t) = some (.bool true, t)) ∨ (c = 110 ∧ body g (c :: t) = some (.bool false, t)) ∨
      (c = 108 ∧ body g (c :: t) = listR g t) ∨ (c ≠ 105 ∧ c ≠ 115 ∧ c ≠ 121 ∧ c ≠ 110 ∧ c ≠ 108 ∧ body g (c :: t) = none) := by
  rw [body]
  by_cases h1 : c = 105
  · exact Or.inl ⟨h1, by rw [if_pos h1]⟩
  rw [if_neg h1]
  by_cases h2 : c = 115
  · exact Or.inr (Or.inl ⟨h2, by rw [if_pos h2]; rfl⟩)
  rw [if_neg h2]
  by_cases h3 : c = 121
  · exact Or.inr (Or.inr (Or.inl ⟨h3, by rw [if_pos h3]⟩))
  rw [if_neg h3]
  by_cases h4 : c = 110
  · exact Or.inr (Or.inr (Or.inr (Or.inl ⟨h4, by rw [if_pos h4]⟩)))
  rw [if_neg h4]
  by_cases h5 : c = 108
  · exact Or.inr (Or.inr (Or.inr (Or.inr (Or.inl ⟨h5, by rw [if_pos h5]⟩))))
  exact Or.inr (Or.inr (Or.inr (Or.inr (Or.inr ⟨h1, h2, h3, h4, h5, by rw [if_neg h5]⟩))))
set_option maxRecDepth 100000 in
set_option maxHeartbeats 1000000 in
theorem read_none (B : Nat) (z : Int) (w : World) (hB : Box w B (mkS [])) :
    Calls Tryz.prog 77 #[.func (.func 114) #[] #[.pointer (some ⟨B, 0, none⟩)], .int .i64 z] w (ReadQ B none w) := by
  have HT := Lib.hid (take_no B 1 (mkS []) (by rw [mkS_size]; exact Nat.zero_lt_one) w hB)
  have HB := Lib.hid hB
  clear hB
  go_enter Tryz.func77, Tryz.ntmps77
  go_wp2_with (go_at_call 114; fail)
  refine HT.out.mono ?_
  rintro e w' ⟨rfl, rfl⟩
  go_wp2
  go_ret2
  exact ReadQ.no HB.out (grown_refl _ _)
theorem ReadQ.past {B : Nat} {r : Option (A × List Nat)} {w w1 w2 : World} {e : Ending} (hg : w.grownBy w1 (some B)) (h : ReadQ B r w1 e w2) : ReadQ B r w e w2 := by
  rcases h with ⟨a, t', v, rfl, rfl, hv, hb, hg2⟩ | ⟨rfl, v, s, rfl, hb, hg2⟩
  · exact ReadQ.ok (hv.keep (fun b h _ => Nat.le_trans hg.size h) (Nat.le_refl _) (fun _ _ _ => rfl)) hb (grown_two hg hg2)
  · exact ReadQ.no hb (grown_two hg hg2)
set_option maxRecDepth 100000 in
set_option maxHeartbeats 1000000 in
theorem read_some (m : Nat) (hm : m ≤ 8) (ih : ∀ k, m = k + 1 → ReadsB k) (c : Nat) (t : List Nat) (B : Nat) (w : World) (z : Int) (hb : ∀ x ∈ c :: t, x < 256) (hz : z + m = 8) (hB : Box w B (mkS (c :: t))) :
    Calls Tryz.prog 77 #[.func (.func 114) #[] #[.pointer (some ⟨B, 0, none⟩)], .int .i64 z] w (ReadQ B (rd m (c :: t)) w) := by
  have HT := Lib.hid (take_ok B 1 (c :: t) (by simp) w hB)
  have e1 : (c :: t).take 1 = [c] := by simp
  have e2 : (c :: t).drop 1 = t := rfl
  rw [e1, e2] at HT
  have hc : c < 256 := hb c (by simp)
  have hbt : ∀ x ∈ t, x < 256 := fun x hx => hb x (by simp [hx])
  have hix := str_one c hc
  obtain ⟨q, hq⟩ : ∃ q, mkS [c] = q := ⟨_, rfl⟩
  rw [hq] at HT hix
  clear hB hb e1 e2 hq
  have HTB := Lib.hid hbt
  clear hbt
  obtain ⟨g, hg, hgm⟩ := rd_body m
  rw [hg]
  rcases body_cases g c t with ⟨rfl, he⟩ | ⟨rfl, he⟩ | ⟨rfl, he⟩ | ⟨rfl, he⟩ | ⟨rfl, he⟩ | ⟨n1, n2, n3, n4, n5, he⟩
  · rw [he]
    clear he hg hgm ih
    by_cases hl : t.length < 8
    · rw [if_pos hl]
      have HN := Lib.hid (fun w hB => num_no B 8 (mkS t) (by rw [mkS_size]; exact hl) w hB)
      clear hl
      go_enter Tryz.func77, Tryz.ntmps77
      go_wp2_with (go_at_call 114; fail)
      refine HT.out.mono ?_
      rintro e w1 ⟨rfl, hb1, hg1⟩
      have HB1 := Lib.hid hb1
      have HG1 := Lib.hid hg1
      clear hb1 hg1
      go_wp2_with (go_at_call 115; fail)
      refine (HN.out _ HB1.out).mono ?_
      rintro e w2 ⟨rfl, rfl⟩
      go_wp2
      go_ret2
      exact ReadQ.no HB1.out HG1.out
    · rw [if_neg hl]
      have HN := Lib.hid (fun w hB => num_yes B 8 t HTB.out (by omega) (by omega) w hB)
      have hv : val (t.take 8) < 18446744073709551616 := by
        have h1 := val_lt (t.take 8) (fun c hc => HTB.out c (List.mem_of_mem_take hc))
        rw [show (t.take 8).length = 8 by rw [List.length_take]; omega] at h1
        exact h1
      have HW : Hid (wrap64 ((val (t.take 8) : Nat) : Int) = s64 (val (t.take 8))) := Lib.hid (by rw [← wrap_s64 _ hv]; unfold wrap64; simp [IntKind.wrap, IntKind.bits, IntKind.signed]; omega)
      have HIN := Lib.hid (s64_in (n := val (t.take 8)) (by unfold two64; exact hv))
      obtain ⟨n, hn⟩ : ∃ n, val (t.take 8) = n := ⟨_, rfl⟩
      rw [hn] at HN HW HIN ⊢
      clear hl hn hv
      go_enter Tryz.func77, Tryz.ntmps77
      go_wp2_with (go_at_call 114; fail)
      refine HT.out.mono ?_
      rintro e w1 ⟨rfl, hb1, hg1⟩
      have HB1 := Lib.hid hb1
      have HG1 := Lib.hid hg1
      clear hb1 hg1
      go_wp2_with (go_at_call 115; fail)
      refine (HN.out _ HB1.out).mono ?_
      rintro e w2 ⟨rfl, hb2, hg2⟩
      have HB2 := Lib.hid hb2
      have HG2 := Lib.hid (grown_two HG1.out hg2)
      clear hb2 hg2
      go_wp2
      go_ret2
      rw [← HW.out] at HIN ⊢
      exact ReadQ.ok (.num _ HIN.out) HB2.out HG2.out
  · rw [he]
    have HC := Lib.hid (fun w hB => rtext_any B t HTB.out w hB)
    obtain ⟨r, hr⟩ : ∃ r, textR t = r := ⟨_, rfl⟩
    rw [hr] at HC ⊢
    clear he hg hgm ih hr
    go_enter Tryz.func77, Tryz.ntmps77
    go_wp2_with (go_at_call 114; fail)
    refine HT.out.mono ?_
    rintro e w1 ⟨rfl, hb1, hg1⟩
    have HB1 := Lib.hid hb1
    have HG1 := Lib.hid hg1
    clear hb1 hg1
    go_wp2_with (go_at_call 116; fail)
    refine (HC.out _ HB1.out).mono ?_
    intro e w2 hrq
    have HQ := Lib.hid (hrq.past HG1.out)
    rcases hrq with ⟨a, t', v, rfl, rfl, _, _, _⟩ | ⟨rfl, v, s, rfl, _, _⟩
    · go_wp2
      go_ret2
      exact HQ.out
    · go_wp2
      go_ret2
      exact HQ.out
  · rw [he]
    clear he hg hgm ih
    go_enter Tryz.func77, Tryz.ntmps77
    go_wp2_with (go_at_call 114; fail)
    refine HT.out.mono ?_
    rintro e w1 ⟨rfl, hb1, hg1⟩
    have HB1 := Lib.hid hb1
    have HG1 := Lib.hid hg1
    clear hb1 hg1
    go_wp2
    go_ret2
    exact ReadQ.ok (.bool true) HB1.out HG1.out
  · rw [he]
    clear he hg hgm ih
    go_enter Tryz.func77, Tryz.ntmps77
    go_wp2_with (go_at_call 114; fail)
    refine HT.out.mono ?_
    rintro e w1 ⟨rfl, hb1, hg1⟩
    have HB1 := Lib.hid hb1
    have HG1 := Lib.hid hg1
    clear hb1 hg1
    go_wp2
    go_ret2
    exact ReadQ.ok (.bool false) HB1.out HG1.out
  · rw [he]
    have HC : Hid (∀ w, Box w B (mkS t) → Calls Tryz.prog 117 #[.func (.func 114) #[] #[.pointer (some ⟨B, 0, none⟩)], .int .i64 (z + 1)] w (ReadQ B (listR g t) w)) := Lib.hid fun w hB => by
      have bad : listR g t = none → (t = [] ∨ 8 < z + 1) → Calls Tryz.prog 117 #[.func (.func 114) #[] #[.pointer (some ⟨B, 0, none⟩)], .int .i64 (z + 1)] w (ReadQ B (listR g t) w) := fun h1 h2 => by
        rw [h1]
        exact (rlist_bad B t HTB.out (z + 1) h2 w hB).mono fun e w' ⟨v, s, he, h3, h4⟩ => Or.inr ⟨rfl, v, s, he, h3, h4⟩
      rcases hgm with ⟨rfl, hm0⟩ | ⟨k, hk, rfl⟩
      · exact bad rfl (Or.inr (by omega))
      · cases t with
        | nil => exact bad rfl (Or.inl rfl)
        | cons n t => exact rlist_any k (by omega) (ih k hk) B n t HTB.out (z + 1) (by omega) w hB
    obtain ⟨r, hr⟩ : ∃ r, listR g t = r := ⟨_, rfl⟩
    rw [hr] at HC ⊢
    clear he hg hgm ih hr
    have hz1 : -1000 ≤ z := by omega
    have hz2 : z ≤ 1000 := by omega
    clear hz
    go_enter Tryz.func77, Tryz.ntmps77
    go_wp2_with (go_at_call 114; fail)
    refine HT.out.mono ?_
    rintro e w1 ⟨rfl, hb1, hg1⟩
    have HB1 := Lib.hid hb1
    have HG1 := Lib.hid hg1
    clear hb1 hg1
    go_wp2_with (go_at_call 117; fail)
    refine (HC.out _ HB1.out).mono ?_
    intro e w2 hrq
    have HQ := Lib.hid (hrq.past HG1.out)
    rcases hrq with ⟨a, t', v, rfl, rfl, _, _, _⟩ | ⟨rfl, v, s, rfl, _, _⟩
    · go_wp2
      go_ret2
      exact HQ.out
    · go_wp2
      go_ret2
      exact HQ.out
  · rw [he]
    have d1 : ((c : Int) == 105) = false := by simp; omega
    have d2 : ((c : Int) == 115) = false := by simp; omega
    have d3 : ((c : Int) == 121) = false := by simp; omega
    have d4 : ((c : Int) == 110) = false := by simp; omega
    have d5 : ((c : Int) == 108) = false := by simp; omega
    clear he hg hgm ih n1 n2 n3 n4 n5
    go_enter Tryz.func77, Tryz.ntmps77
    go_wp2_with (go_at_call 114; fail)
    refine HT.out.mono ?_
    rintro e w1 ⟨rfl, hb1, hg1⟩
    have HB1 := Lib.hid hb1
    have HG1 := Lib.hid hg1
    clear hb1 hg1
    go_wp2
    go_ret2
    exact ReadQ.no HB1.out HG1.out
theorem read_any : ∀ m, m ≤ 8 → ReadsB m
  | 0, _ => fun t B w z hb hz hB => by
    cases t with
    | nil => exact read_none B z w hB
    | cons c t => exact read_some 0 (by omega) (fun k hk => by omega) c t B w z hb hz hB
  | m + 1, hm => fun t B w z hb hz hB => by
    cases t with
    | nil => exact read_none B z w hB
    | cons c t => 
      have ih := read_any m (by omega)
      refine read_some (m + 1) hm (fun k hk => ?_) c t B w z hb hz hB
      obtain rfl : m = k := by omega
      exact ih
end Go.Proofs.YtlogjpmdfimgdaaGreatDoor
namespace Go.Own
/-- The value of which a text is the bytes. -/
def pa (t : List Nat) : Option A := match rd 8 t with
  | some (a, []) => some a
  | _ => none
theorem pa_pr {a : A} (h : er a 0 = 0) (ho : okA a) : pa (pr a) = some a := by
  have h1 := rd_pr a 0 (by omega) h ho []
  rw [List.append_nil] at h1
  rw [pa, h1]
theorem pa_was {t : List Nat} (hb : ∀ c ∈ t, c < 256) {a : A} (h : pa t = some a) : t = pr a ∧ er a 0 = 0 ∧ okA a := by
  unfold pa at h
  split at h
  · rename_i b hb2
    cases h
    have hw := pr_rd 8 (by omega) t hb a [] hb2
    exact ⟨by simpa using hw.text, hw.fine, hw.ok⟩
  · cases h
end Go.Own
namespace Go.Proofs.YtlogjpmdfimgdaaGreatDoor
open Go.RowKit Go.Own
/-- What Parse answers. -/
def ParseQ (r : Option A) (w : World) (e : Ending) (w' : World) : Prop :=
  (∃ a v, r = some a ∧ e = .returned (.tuple #[v, .int .i64 0]) ∧ AAt w' (fun b => w.heap.size ≤ b) v a ∧ Below w.heap.size w w') ∨ (r = none ∧ e = .returned (.tuple #[.nilIface, .int .i64 2]) ∧ Below w.heap.size w w')
theorem below_but {w w1 : World} {o : Obj} (h : (w.alloc o).grownBy w1 (some w.heap.size)) : Below w.heap.size w w1 := by
  have hs := h.size
  simp at hs
  refine ⟨h.os, h.tape, h.output, by omega, fun k hk => ?_⟩
  rw [h.block k (by simp; omega) (fun e => by have := Option.some.inj e; omega)]
  exact ((Below.refl w.heap.size w).alloc (Nat.le_refl _) o).block k hk
theorem below_box {w w1 w2 : World} {B : Nat} (h : Below B w w1) (hg : w1.grownBy w2 (some B)) (hB : B ≤ w1.heap.size) : Below B w w2 :=
  h.grown hg hB (fun k hk => by have := Option.some.inj hk; omega)
set_option maxRecDepth 100000 in
set_option maxHeartbeats 1000000 in
theorem parse_any (t : List Nat) (hb : ∀ c ∈ t, c < 256) (w : World) : Calls Tryz.prog 53 #[.string (mkS t)] w (ParseQ (pa t) w) := by
  have HR := Lib.hid (read_any 8 (by omega) t w.heap.size (w.alloc (.cells #[.string (mkS t)] 9)) 0 hb (by omega) (box_new w _))
  have HPA : Hid (pa t = match rd 8 t with
    | some (a, []) => some a
    | _ => none) := Lib.hid rfl
  obtain ⟨p, hp⟩ : ∃ p, pa t = p := ⟨_, rfl⟩
  obtain ⟨r, hr⟩ : ∃ r, rd 8 t = r := ⟨_, rfl⟩
  rw [hr] at HR HPA
  rw [hp] at HPA ⊢
  obtain ⟨q, hq⟩ : ∃ q, mkS t = q := ⟨_, rfl⟩
  rw [hq] at HR ⊢
  clear hb hp hr hq
  go_enter Tryz.func53, Tryz.ntmps53
  go_wp2_with fail
  refine (taker_any q w).mono ?_
  rintro e w' ⟨rfl, rfl⟩
  go_wp2_with (go_at_call 77; fail)
  refine HR.out.mono ?_
  intro e w2 hrq
  rcases hrq with ⟨a, t', v, rfl, rfl, hv, hb2, hg2⟩ | ⟨rfl, v, s, rfl, hb2, hg2⟩
  · have HV : Hid (AAt w2 (fun b => w.heap.size ≤ b) v a) := Lib.hid (hv.keep (fun b h _ => by simp at h; omega) (Nat.le_refl _) (fun _ _ _ => rfl))
    have hbl2 := below_but hg2
    have hz2 : w.heap.size ≤ w2.heap.size := hbl2.size
    cases t' with
    | nil =>
      have HT := Lib.hid (take_no w.heap.size 1 (mkS []) (by rw [mkS_size]; exact Nat.zero_lt_one) w2 hb2)
      have HP : Hid (p = some a) := HPA
      have HBL := Lib.hid hbl2
      clear hv hb2 hg2 hbl2
      go_wp2_with (go_at_call 114; fail)
      refine HT.out.mono ?_
      rintro e w3 ⟨rfl, rfl⟩
      go_wp2
      go_ret2
      exact Or.inl ⟨a, v, HP.out, rfl, HV.out, HBL.out⟩
    | cons c t' =>
      have HT := Lib.hid (take_ok w.heap.size 1 (c :: t') (by simp) w2 hb2)
      have HP : Hid (p = none) := HPA
      have HBL := Lib.hid hbl2
      clear hv hb2 hg2 hbl2
      go_wp2_with (go_at_call 114; fail)
      refine HT.out.mono ?_
      rintro e w3 ⟨rfl, hb3, hg3⟩
      have HB3 := Lib.hid (below_box HBL.out hg3 hz2)
      clear hb3 hg3
      go_wp2
      go_ret2
      exact Or.inr ⟨HP.out, rfl, HB3.out⟩
  · have HP : Hid (p = none) := HPA
    have HBL := Lib.hid (below_but hg2)
    have hz2 : w.heap.size ≤ w2.heap.size := HBL.out.size
    by_cases h1 : s.size < 1
    · have HT := Lib.hid (take_no w.heap.size 1 s h1 w2 hb2)
      clear hb2 hg2 h1
      go_wp2_with (go_at_call 114; fail)
      refine HT.out.mono ?_
      rintro e w3 ⟨rfl, rfl⟩
      go_wp2
      go_ret2
      exact Or.inr ⟨HP.out, rfl, HBL.out⟩
    · have HT := Lib.hid (take_yes w.heap.size 1 s (by omega) w2 hb2)
      clear hb2 hg2 h1
      go_wp2_with (go_at_call 114; fail)
      refine HT.out.mono ?_
      rintro e w3 ⟨rfl, hb3, hg3⟩
      have HB3 := Lib.hid (below_box HBL.out hg3 hz2)
      clear hb3 hg3
      go_wp2
      go_ret2
      exact Or.inr ⟨HP.out, rfl, HB3.out⟩
end Go.Proofs.YtlogjpmdfimgdaaGreatDoor
namespace Go.Proofs.YtlogjpmdfimgdaaGreatDoor
open Go.RowKit Go.Own
/-- The answer holds l, in a row of the call's own. -/
def NewB (B : Nat) (l : List Nat) (w : World) (e : Ending) (w' : World) : Prop := ∃ v', e = .returned v' ∧ OwnB w' B v' l ∧ Below B w w'
theorem be_cell (N q : Nat) : ((N : Int) / 2 ^ (8 * q) % 256) = ((N / 256 ^ q % 256 : Nat) : Int) := by
  have e : 256 ^ q = 2 ^ (8 * q) := by rw [Nat.pow_mul]
  rw [e]
  simp
set_option maxRecDepth 100000 in
set_option maxHeartbeats 1000000 in
theorem high_any (k N : Nat) (hk : k ≤ 8) (hN : N < 18446744073709551616) (l : List Nat) (hl : l.length + k ≤ 140737488355328) (v : Value) (B : Nat) (w : World) (hB : B ≤ w.heap.size) (hv : OwnB w B v l) :
    Calls Tryz.prog 92 #[v, .int .u64 (N : Int), .int .i64 (k : Int)] w (NewB B (l ++ be k N) w) := by
  have HV := Lib.hid hv
  have HNN := Lib.hid hN
  clear hv hN
  go_enter Tryz.func92, Tryz.ntmps92
  go_wp2
  go_loopw [0, 7] (fun o i wr => ∃ (z : Int) (m : Nat) (L : List Nat), m ≤ k ∧ i = .int .i64 z ∧ z + 1 = m ∧ Hid (OwnB wr B o L) ∧ Hid (Below B w wr) ∧ Hid (L ++ be m N = l ++ be k N) ∧ L.length + m ≤ 140737488355328) (fun _ i _ => (intOf i + 1).toNat)
  case atStart => exact ⟨_, k, l, Nat.le_refl _, rfl, by omega, HV, Lib.hid (Below.refl _ _), Lib.hid rfl, hl⟩
  case round =>
    obtain ⟨z, m, L, hm, rfl, hz, HO, HB, HE, hL⟩ := hrel
    have hBr : B ≤ wr.heap.size := Nat.le_trans hB HB.out.size
    rcases Nat.eq_zero_or_pos m with rfl | hpos
    · obtain rfl : z = -1 := by omega
      clear hz
      have HF : Hid (OwnB wr B u0 (l ++ be k N)) := Lib.hid (by rw [← HE.out]; simpa [be] using HO.out)
      go_wp2
      go_ret
      exact ⟨_, rfl, HF.out, HB.out⟩
    · obtain ⟨q, rfl⟩ : ∃ q, m = q + 1 := ⟨m - 1, by omega⟩
      obtain rfl : z = (q : Int) := by omega
      clear hz
      have HE2 : Hid ((L ++ [N / 256 ^ q % 256]) ++ be q N = l ++ be k N) := Lib.hid (by rw [← HE.out]; simp [be])
      go_wp2_with (at_builtin; refine wpList_byte rfl (.tmp 14) (.tmp 20) rfl wr B _ L (N / 256 ^ q % 256) (by rw [be_cell]) rfl HO.out rfl (by omega) hBr ?_)
      intro v1 w1 hv1 hb1
      have HO1 := Lib.hid hv1
      have HB1 := Lib.hid (HB.out.trans hb1)
      clear hv1 hb1
      go_wp2
      go_roundw
      case rel => exact ⟨_, q, _, by omega, rfl, by omega, HO1, HB1, HE2, by simp; omega⟩
      case measure => simp [intOf]
end Go.Proofs.YtlogjpmdfimgdaaGreatDoor

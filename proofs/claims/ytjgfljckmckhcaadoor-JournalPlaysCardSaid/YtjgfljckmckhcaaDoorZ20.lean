/- Records: what was laid is taken; what is taken hangs on its own sectors alone. No condition. | The library's strings.Repeat and strings.Builder at this program: laid by the kit's own command and written out in plain words; strings.Clone. No condition but the sizes. -/
import Derived.Test.YtjgfljckmckhcaaDoorZ19
import Derived.Shelf.Strings.Repeat
import Derived.Shelf.Abstract
import Derived.Test.YtjgfljckmckhcaaDoorChecked
import Derived.Test.YtjgfljckmckhcaaDoorZ05
import Derived.Test.YtjgfljckmckhcaaDoorZ12
namespace Go.Proofs.YtjgfljckmckhcaaDoor
open Go.RowKit Go.Own

theorem be_length (k n : Nat) : (be k n).length = k := by simp [be]
theorem be_B8 (k n : Nat) : B8 (be k n) := fun x hx => by
  simp only [be, List.mem_map] at hx
  obtain ⟨i, _, rfl⟩ := hx
  exact Nat.mod_lt _ (by decide)
theorem val_snoc (s : List Nat) (b : Nat) : val (s ++ [b]) = val s * 256 + b := by simp [val]
theorem be_succ (k n : Nat) : be (k + 1) n = be k (n / 256) ++ [n % 256] := by
  unfold be
  rw [List.range_succ, List.map_append]
  congr 1
  · apply List.map_congr_left
    intro i hi
    have hi' := List.mem_range.1 hi
    rw [show 8 * (k + 1 - 1 - i) = 8 + 8 * (k - 1 - i) by omega, Nat.pow_add, ← Nat.div_div_eq_div_mul]
  · simp
theorem val_be : ∀ (k n : Nat), n < 256 ^ k → val (be k n) = n
  | 0, n, h => by simp at h; subst h; rfl
  | k + 1, n, h => by
    rw [be_succ, val_snoc, val_be k (n / 256) (by rw [Nat.pow_succ] at h; omega)]
    omega
theorem secs_pos (k : Nat) : 1 ≤ secs k := by unfold secs; omega
theorem secs_room (k : Nat) : k + 50 ≤ secs k * 64 := by unfold secs; omega
theorem secs_small {k : Nat} (h : k ≤ 14) : secs k = 1 := by unfold secs; omega
theorem body_length (g n : Nat) (t : List Nat) : (bodyL g n t).length = 17 + t.length := by simp [bodyL, be_length]; omega
theorem all_length (g n : Nat) (t : List Nat) : (allL g n t).length = 49 + t.length := by rw [allL, List.length_append, body_length, Sm.digL_length]; omega
theorem laid_length (g n : Nat) (t : List Nat) : (laidL g n t).length = max 64 (50 + t.length) := by
  simp [laidL, all_length, rep_length]; omega
theorem laid_le (g n : Nat) (t : List Nat) : (laidL g n t).length ≤ secs t.length * 64 := by
  have h1 := secs_room t.length
  have h2 := secs_pos t.length
  rw [laid_length]; omega
/-- A record as it lies, filled up. -/
def recL (g n : Nat) (t : List Nat) : List Nat := laidL g n t ++ rep (secs t.length * 64 - (laidL g n t).length)
theorem rec_length (g n : Nat) (t : List Nat) : (recL g n t).length = secs t.length * 64 := by
  have := laid_le g n t
  rw [recL, List.length_append, rep_length]; omega
/-- A record's bytes, the mark between left out. -/
def midL (x : List Nat) (e : Nat) : List Nat := x.take 63 ++ (x.drop 64).take (e - 64)
theorem rec_mid (g n : Nat) (t r : List Nat) : ∃ z, midL (recL g n t ++ r) (secs t.length * 64) = allL g n t ++ z := by
  have hl := all_length g n t
  obtain ⟨A, hA⟩ : ∃ A, allL g n t = A := ⟨_, rfl⟩
  rw [hA] at hl
  unfold midL recL laidL
  rw [hA]
  by_cases h : t.length ≤ 14
  · rw [secs_small h, Nat.min_eq_right (by omega), List.take_of_length_le (Nat.le_refl _)]
    refine ⟨rep (63 - A.length), ?_⟩
    simp only [List.append_assoc, Nat.one_mul, Nat.sub_self, List.take_zero, List.append_nil]
    rw [← List.append_assoc, List.take_left' (by simp [rep_length]; omega)]
  · rw [Nat.min_eq_left (by omega)]
    have h1 : (A.take 63).length = 63 := by rw [List.length_take]; omega
    have h2 := secs_room t.length
    have e0 : rep (63 - 63) = [] := rfl
    simp only [e0, List.append_nil, List.append_assoc]
    rw [List.take_left' h1]
    have e1 : (A.take 63 ++ ([76] ++ (A.drop 63 ++ (rep (secs t.length * 64 - (A.take 63 ++ ([76] ++ A.drop 63)).length) ++ r)))).drop 64 = A.drop 63 ++ (rep (secs t.length * 64 - (A.take 63 ++ ([76] ++ A.drop 63)).length) ++ r) := by
      rw [← List.append_assoc, List.drop_left' (by rw [List.length_append, h1]; rfl)]
    rw [e1, List.take_append, List.take_of_length_le (l := A.drop 63) (by rw [List.length_drop]; omega)]
    exact ⟨_, by rw [← List.append_assoc, List.take_append_drop]⟩
theorem rec_head (g n : Nat) (t r : List Nat) : (recL g n t ++ r).take 49 = (allL g n t).take 49 := by
  have hl := all_length g n t
  unfold recL laidL
  obtain ⟨A, hA⟩ : ∃ A, allL g n t = A := ⟨_, rfl⟩
  rw [hA] at hl ⊢
  simp only [List.append_assoc]
  rw [List.take_append_of_le_length (by rw [List.length_take]; omega), List.take_take]
  congr 1; omega
theorem gi_take {x : List Nat} {i n : Nat} (h : i < n) : gi (x.take n) i = gi x i := by
  simp [gi, List.getD, h]
theorem rec_mark (g n : Nat) (t r : List Nat) : gi (recL g n t ++ r) 63 = 76 := by
  have hl := all_length g n t
  unfold recL laidL
  obtain ⟨A, hA⟩ : ∃ A, allL g n t = A := ⟨_, rfl⟩
  rw [hA] at hl ⊢
  have h1 : (A.take (min 63 A.length) ++ rep (63 - min 63 A.length)).length = 63 := by rw [List.length_append, List.length_take, rep_length]; omega
  simp only [List.append_assoc]
  rw [← List.append_assoc]
  unfold gi
  rw [List.getD_eq_getElem?_getD, List.getElem?_append_right (by omega), h1]
  rfl
theorem drop_take_of {x A : List Nat} {n a k : Nat} (h : x.take n = A.take n) (hk : a + k ≤ n) : (x.drop a).take k = (A.drop a).take k := by
  have e : ∀ z : List Nat, (z.drop a).take k = ((z.take n).drop a).take k := fun z => by
    rw [List.drop_take, List.take_take, Nat.min_eq_left (by omega)]
  rw [e x, e A, h]
theorem all_eq (g n : Nat) (t : List Nat) : allL g n t = 76 :: (be 8 g ++ (be 4 n ++ (be 4 t.length ++ (t ++ Sm.digL (bodyL g n t))))) := by
  unfold allL
  conv => lhs; arg 1; unfold bodyL
  simp only [List.append_assoc, List.cons_append, List.nil_append]
theorem all_gen (g n : Nat) (t : List Nat) : ((allL g n t).drop 1).take 8 = be 8 g := by
  rw [all_eq, List.drop_succ_cons, List.drop_zero, List.take_left' (be_length 8 g)]
theorem all_num (g n : Nat) (t : List Nat) : ((allL g n t).drop 9).take 4 = be 4 n := by
  rw [all_eq, List.drop_succ_cons, List.drop_left' (be_length 8 g), List.take_left' (be_length 4 n)]
theorem all_len (g n : Nat) (t : List Nat) : ((allL g n t).drop 13).take 4 = be 4 t.length := by
  rw [all_eq, List.drop_succ_cons, ← List.append_assoc (be 8 g), List.drop_left' (by rw [List.length_append, be_length, be_length]), List.take_left' (be_length 4 _)]
theorem all_text (g n : Nat) (t z : List Nat) : ((allL g n t ++ z).drop 17).take t.length = t := by
  unfold allL bodyL
  have e : ([76] ++ be 8 g ++ be 4 n ++ be 4 t.length).length = 17 := by simp [be_length]
  rw [List.append_assoc, List.append_assoc ([76] ++ be 8 g ++ be 4 n ++ be 4 t.length), List.drop_left' e, List.take_left' rfl]
theorem all_dig (g n : Nat) (t z : List Nat) : ((allL g n t ++ z).drop (17 + t.length)).take 32 = Sm.digL ((allL g n t ++ z).take (17 + t.length)) := by
  unfold allL
  rw [List.append_assoc, List.drop_left' (body_length g n t), List.take_left' (body_length g n t), List.take_left' (Sm.digL_length _)]
/-- What was laid is taken. -/
theorem rec_taken (g n : Nat) (t r : List Nat) (h1 : 1 ≤ g) (h2 : g ≤ 1099511627776) (hn : n < 4294967296) (ht : t.length ≤ 65535) : takenL (recL g n t ++ r) = some (g, n, t) := by
  have hh := rec_head g n t r
  have hm := rec_mark g n t r
  obtain ⟨z, hz⟩ := rec_mid g n t r
  have hlen : secs t.length * 64 ≤ (recL g n t ++ r).length := by rw [List.length_append, rec_length]; omega
  have hp := secs_pos t.length
  obtain ⟨x, hx⟩ : ∃ x, recL g n t ++ r = x := ⟨_, rfl⟩
  rw [hx] at hh hm hz hlen ⊢
  have e1 : val ((x.drop 1).take 8) = g := by rw [drop_take_of hh (by decide), all_gen, val_be]; omega
  have e2 : val ((x.drop 9).take 4) = n := by rw [drop_take_of hh (by decide), all_num, val_be]; omega
  have e3 : val ((x.drop 13).take 4) = t.length := by rw [drop_take_of hh (by decide), all_len, val_be]; omega
  have e0 : gi x 0 = 76 := by
    rw [← gi_take (n := 49) (by decide), hh, gi_take (by decide)]; rfl
  unfold takenL
  rw [e1, e2, e3, if_neg (by omega), if_neg (by omega), if_neg (by omega)]
  have hz' : x.take 63 ++ (x.drop 64).take (secs t.length * 64 - 64) = allL g n t ++ z := hz
  rw [hz', if_pos (all_dig g n t z), all_text]
/-- What is known of what is taken. -/
theorem taken_some {x : List Nat} {g n : Nat} {t : List Nat} (h : takenL x = some (g, n, t)) :
    64 ≤ x.length ∧ gi x 0 = 76 ∧ gi x 63 = 76 ∧ val ((x.drop 1).take 8) = g ∧ val ((x.drop 9).take 4) = n ∧ val ((x.drop 13).take 4) = t.length ∧ 1 ≤ g ∧ g ≤ 1099511627776 ∧ t.length ≤ 65535 ∧ secs t.length * 64 ≤ x.length ∧
    ((midL x (secs t.length * 64)).drop (17 + t.length)).take 32 = Sm.digL ((midL x (secs t.length * 64)).take (17 + t.length)) ∧ ((midL x (secs t.length * 64)).drop 17).take t.length = t := by
  unfold takenL at h
  split at h
  · cases h
  · rename_i c1
    split at h
    · cases h
    · rename_i c2
      split at h
      · cases h
      · rename_i c3
        split at h
        · rename_i c4
          obtain ⟨k, hk⟩ : ∃ k, val ((x.drop 13).take 4) = k := ⟨_, rfl⟩
          rw [hk] at h c2 c3 c4
          simp only [Option.some.injEq, Prod.mk.injEq] at h
          obtain ⟨hg, hn, ht⟩ := h
          have hr := secs_room k
          have hp := secs_pos k
          have hl : t.length = k := by
            rw [← ht]
            simp only [List.length_take, List.length_drop, List.length_append]
            omega
          rw [hl, hk]
          refine ⟨by omega, by omega, by omega, hg, hn, rfl, by omega, by omega, by omega, by omega, c4, ?_⟩
          exact ht
        · cases h
theorem mid_of {x y : List Nat} {e : Nat} (h64 : 64 ≤ e) (h : y.take e = x.take e) : midL y e = midL x e := by
  unfold midL
  have e1 : y.take 63 = x.take 63 := by
    have := congrArg (List.take 63) h
    rwa [List.take_take, List.take_take, Nat.min_eq_left (by omega)] at this
  rw [e1, drop_take_of h (a := 64) (k := e - 64) (by omega)]
/-- It hangs on its own sectors alone. -/
theorem taken_local {x y : List Nat} {g n : Nat} {t : List Nat} (h : takenL x = some (g, n, t)) (hy : y.take (secs t.length * 64) = x.take (secs t.length * 64)) : takenL y = some (g, n, t) := by
  obtain ⟨a1, a2, a3, a4, a5, a6, a7, a8, a9, a10, a11, a12⟩ := taken_some h
  have hp := secs_pos t.length
  have hl : secs t.length * 64 ≤ y.length := by
    have := congrArg List.length hy
    rw [List.length_take, List.length_take] at this
    omega
  have hg : ∀ i, i < secs t.length * 64 → gi y i = gi x i := fun i hi => by rw [← gi_take hi, hy, gi_take hi]
  have e1 : val ((y.drop 1).take 8) = g := by rw [drop_take_of hy (by omega), a4]
  have e2 : val ((y.drop 9).take 4) = n := by rw [drop_take_of hy (by omega), a5]
  have e3 : val ((y.drop 13).take 4) = t.length := by rw [drop_take_of hy (by omega), a6]
  have e4 : midL y (secs t.length * 64) = midL x (secs t.length * 64) := mid_of (by omega) hy
  unfold takenL
  rw [e1, e2, e3, if_neg (by rw [hg 0 (by omega), hg 63 (by omega)]; omega), if_neg (by omega), if_neg (by omega)]
  have e4' : y.take 63 ++ (y.drop 64).take (secs t.length * 64 - 64) = midL x (secs t.length * 64) := e4
  rw [e4', if_pos a11, a12]
/-- An empty sector is no record. -/
theorem taken_empty {x : List Nat} (h : gi x 0 ≠ 76) : takenL x = none := by
  unfold takenL; rw [if_pos (by omega)]
theorem taken_short {x : List Nat} (h : x.length < 64) : takenL x = none := by
  unfold takenL; rw [if_pos (by omega)]
end Go.Proofs.YtjgfljckmckhcaaDoor
namespace Go.Proofs.YtjgfljckmckhcaaDoor
open Go.RowKit Go.Own Go.Shelf

def layRepeat_ren : Go.Shelf.Ren := ⟨fun | 105 => 62 | 212 => 68 | 99 => 69 | 165 => 70 | 166 => 54 | 170 => 71 | 169 => 55 | 263 => 77 | 264 => 78 | 206 => 79 | 240 => 63 | 241 => 80 | 276 => 72 | 277 => 86 | n => n, fun | 9 => 9 | 3 => 3 | 4 => 4 | 20 => 20 | 0 => 0 | 46 => 115 | 109 => 119 | 5 => 5 | 72 => 100 | 76 => 105 | 51 => 124 | 146 => 133 | 53 => 38 | 148 => 135 | 70 => 98 | 37 => 54 | 75 => 104 | 127 => 110 | 164 => 122 | 80 => 86 | n => n, fun | n => n⟩
theorem layRepeat : Go.Proofs.Lays.n105 Tryd.prog layRepeat_ren := {
  mixed := by kernel_rfl
  f99 := Tryd.func69.trans (congrArg some (by kernel_rfl))
  f105 := Tryd.func62.trans (congrArg some (by kernel_rfl))
  f165 := Tryd.func70.trans (congrArg some (by kernel_rfl))
  f166 := Tryd.func54.trans (congrArg some (by kernel_rfl))
  f169 := Tryd.func55.trans (congrArg some (by kernel_rfl))
  f170 := Tryd.func71.trans (congrArg some (by kernel_rfl))
  f206 := Tryd.func79.trans (congrArg some (by kernel_rfl))
  f212 := Tryd.func68.trans (congrArg some (by kernel_rfl))
  f240 := Tryd.func63.trans (congrArg some (by kernel_rfl))
  f241 := Tryd.func80.trans (congrArg some (by kernel_rfl))
  f263 := Tryd.func77.trans (congrArg some (by kernel_rfl))
  f264 := Tryd.func78.trans (congrArg some (by kernel_rfl))
  f276 := Tryd.func72.trans (congrArg some (by kernel_rfl))
  f277 := Tryd.func86.trans (congrArg some (by kernel_rfl))
  t0 := Tryd.underlying0
  a0 := Tryd.isAgg0
  z0 := Tryd.sizeOf0
  v0 := Tryd.zeroValue0
  t3 := Tryd.underlying3
  a3 := Tryd.isAgg3
  z3 := Tryd.sizeOf3
  v3 := Tryd.zeroValue3
  t4 := Tryd.underlying4
  a4 := Tryd.isAgg4
  z4 := Tryd.sizeOf4
  v4 := Tryd.zeroValue4
  t5 := Tryd.underlying5
  a5 := Tryd.isAgg5
  z5 := Tryd.sizeOf5
  v5 := Tryd.zeroValue5
  t9 := Tryd.underlying9
  a9 := Tryd.isAgg9
  z9 := Tryd.sizeOf9
  v9 := Tryd.zeroValue9
  t20 := Tryd.underlying20
  a20 := Tryd.isAgg20
  z20 := Tryd.sizeOf20
  v20 := Tryd.zeroValue20
  t37 := Tryd.underlying54
  a37 := Tryd.isAgg54
  z37 := Tryd.sizeOf54
  v37 := Tryd.zeroValue54
  t46 := Tryd.underlying115
  a46 := Tryd.isAgg115
  z46 := Tryd.sizeOf115
  v46 := Tryd.zeroValue115
  t51 := Tryd.underlying124
  a51 := Tryd.isAgg124
  z51 := Tryd.sizeOf124
  v51 := Tryd.zeroValue124
  t53 := Tryd.underlying38
  a53 := Tryd.isAgg38
  z53 := Tryd.sizeOf38
  v53 := Tryd.zeroValue38
  t70 := Tryd.underlying98
  a70 := Tryd.isAgg98
  z70 := Tryd.sizeOf98
  v70 := Tryd.zeroValue98
  t72 := Tryd.underlying100
  a72 := Tryd.isAgg100
  z72 := Tryd.sizeOf100
  v72 := Tryd.zeroValue100
  t75 := Tryd.underlying104
  a75 := Tryd.isAgg104
  z75 := Tryd.sizeOf104
  v75 := Tryd.zeroValue104
  t76 := Tryd.underlying105
  a76 := Tryd.isAgg105
  z76 := Tryd.sizeOf105
  v76 := Tryd.zeroValue105
  t109 := Tryd.underlying119
  a109 := Tryd.isAgg119
  z109 := Tryd.sizeOf119
  v109 := Tryd.zeroValue119
  t127 := Tryd.underlying110
  a127 := Tryd.isAgg110
  z127 := Tryd.sizeOf110
  v127 := Tryd.zeroValue110
  t146 := Tryd.underlying133
  a146 := Tryd.isAgg133
  z146 := Tryd.sizeOf133
  v146 := Tryd.zeroValue133
  t148 := Tryd.underlying135
  a148 := Tryd.isAgg135
  z148 := Tryd.sizeOf135
  v148 := Tryd.zeroValue135
  t164 := Tryd.underlying122
  a164 := Tryd.isAgg122
  z164 := Tryd.sizeOf122
  v164 := Tryd.zeroValue122 }
theorem layExtra : Builder.Extra Tryd.prog layRepeat_ren := {
  sizeBuilder := by kernel_rfl
  liesBuilder := by kernel_rfl
  t5 := layRepeat.t5
  a5 := layRepeat.a5
  z5 := layRepeat.z5
  v5 := layRepeat.v5
  infoByte := by kernel_rfl
  cellsByte := by kernel_rfl
  sizeByte := by kernel_rfl
  neB5 := by decide }
/-- What lies as it lay up to a place: the world with other blocks behind that. -/
theorem below_wd {w W : World} {l g : List Obj} {d : Nat} (h : Below (w.heap.size + l.length) (Wd w (l ++ g) d) W) : ∃ g' d', W = Wd w (l ++ g') d' := by
  have hs := h.size
  rw [Wd_size, List.length_append] at hs
  refine ⟨W.heap.toList.drop (w.heap.size + l.length), W.drawn, ?_⟩
  have e : W.heap = w.heap ++ (l ++ W.heap.toList.drop (w.heap.size + l.length)).toArray := by
    apply Array.ext'
    rw [Array.toList_append, List.toList_toArray, ← List.append_assoc]
    have h1 : W.heap.toList.take (w.heap.size + l.length) = w.heap.toList ++ l := by
      apply List.ext_getElem?
      intro i
      rw [List.getElem?_take]
      split
      · rename_i hi
        have hb := h.block i hi
        rw [Array.getElem?_toList, hb]
        simp only [Wd, Array.getElem?_append, List.getElem?_append, List.getElem?_toArray, Array.length_toList, Array.getElem?_toList]
        by_cases h2 : i < w.heap.size
        · rw [if_pos h2, if_pos h2]
        · rw [if_neg h2, if_neg h2, if_pos (by omega)]
      · rename_i hi
        rw [List.getElem?_eq_none (by simp; omega)]
    rw [← h1, List.take_append_drop]
  have h1 := h.os
  have h2 := h.tape
  have h3 := h.output
  rcases W with ⟨hp, tp, dr, os, out⟩
  simp only [Wd] at h1 h2 h3
  subst h1 h2 h3
  exact congrArg (fun x => World.mk x w.tape dr w.os w.output) e
theorem below_grows {w W : World} {l : List Obj} {d : Nat} (h : Below (Wd w l d).heap.size (Wd w l d) W) : ∃ g d', W = Wd w (l ++ g) d' := by
  rw [Wd_size] at h
  have h' : Below (w.heap.size + l.length) (Wd w (l ++ []) d) W := by rw [List.append_nil]; exact h
  exact below_wd h'
theorem repeatL_mk (b : UInt8) : ∀ n, Lib.repeatL [b] n = List.replicate n b
  | 0 => rfl
  | n + 1 => by
    have := Lib.repeatL_replicate b 1 (n + 1)
    simpa using this
/-- So many bytes 0. -/
theorem repeat_any (w : World) (l : List Obj) (d n : Nat) (hn : n ≤ 1000000) :
    Calls Tryd.prog 62 #[.string ⟨#[0]⟩, .int .i64 (n : Int)] (Wd w l d) fun e w' => e = .returned (.string (mkS (rep n))) ∧ ∃ g d', w' = Wd w (l ++ g) d' := by
  refine (Any.strings_Repeat layRepeat layExtra ⟨#[0]⟩ n (Wd w l d) (by omega) (by show 1 * n ≤ _; omega)).mono ?_
  rintro e w' ⟨rfl, h⟩
  refine ⟨?_, below_grows h⟩
  congr 2
  show ByteArray.mk _ = ByteArray.mk _
  congr 2
  show Lib.repeatL [0] n = (rep n).map UInt8.ofNat
  rw [repeatL_mk, rep, List.map_replicate]; rfl
/-- A builder that lies at a place behind l. -/
def Bu (w : World) (l : List Obj) (W : World) (bs : List Nat) : Prop :=
  (∃ g d, W = Wd w (l ++ g) d) ∧ Lib.IsBuilder 100 5 (w.heap.size + l.length) (w.heap.size + l.length) (cv .u8 bs).toList W
theorem strCells_cv (s : ByteArray) : Lib.strCells s = (cv .u8 (bys s)).toList := by simp [Lib.strCells, cv, bys]
theorem byteCells_cv (l : List Nat) (h : B8 l) : Lib.byteCells (l.map UInt8.ofNat) = (cv .u8 l).toList := by
  simp only [Lib.byteCells, cv, List.map_map]
  apply List.map_congr_left
  intro n hn
  have := h n hn
  simp; omega
theorem bu_write {w : World} {l : List Obj} {W : World} {bs : List Nat} (h : Bu w l W bs) (s : ByteArray) (hs : bs.length + s.size ≤ 1099511627776) :
    Calls Tryd.prog 54 #[.pointer (some ⟨w.heap.size + l.length, 0, none⟩), .string s] W fun e w' => e = .returned (.tuple #[.int .i64 s.size, .nilIface]) ∧ Bu w l w' (bs ++ bys s) := by
  obtain ⟨⟨g, d, rfl⟩, hb⟩ := h
  have hsz : w.heap.size + l.length ≤ (Wd w (l ++ g) d).heap.size := by rw [Wd_size]; simp
  refine (Any.Builder_WriteString { layRepeat with } layExtra _ _ _ s _ hb (by simp [cv]; omega) hsz).mono ?_
  rintro e w' ⟨rfl, h1, h2⟩
  refine ⟨rfl, below_wd h2, .inr ?_⟩
  have e : (cv .u8 bs).toList ++ Lib.strCells s = (cv .u8 (bs ++ bys s)).toList := by rw [strCells_cv]; simp [cv]
  rw [e] at h1
  exact h1
theorem bu_string {w : World} {l : List Obj} {W : World} {bs : List Nat} (h : Bu w l W bs) (h8 : B8 bs) :
    Calls Tryd.prog 55 #[.pointer (some ⟨w.heap.size + l.length, 0, none⟩)] W fun e w' => e = .returned (.string (mkS bs)) ∧ ∃ g d, w' = Wd w (l ++ g) d := by
  obtain ⟨⟨g, d, rfl⟩, hb⟩ := h
  have hsz : w.heap.size + l.length ≤ (Wd w (l ++ g) d).heap.size := by rw [Wd_size]; simp
  rw [← byteCells_cv bs h8] at hb
  refine (Any.Builder_String_any { layRepeat with } layExtra _ _ (bs.map UInt8.ofNat) _ hb hsz).mono ?_
  rintro e w' ⟨rfl, h2⟩
  exact ⟨rfl, below_wd h2⟩
theorem bu_new (w : World) (l : List Obj) (d : Nat) : Bu w l (Wd w (l ++ [.cells #[.pointer none, .slice none 0 0] 100 (0, 0)]) d) [] := by
  refine ⟨⟨_, _, rfl⟩, .inl ⟨Nat.le_refl _, .slice none 0 0, ?_, ?_, by simp [Value.ownBlock]⟩⟩
  · rw [Wd_at]; simp
  · exact World.ownsRow_nil ..
end Go.Proofs.YtjgfljckmckhcaaDoor

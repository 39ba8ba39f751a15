/- A disk's small calls: refused, Arm, keeper's closure, filled: by contract. No condition. | A disk plainly: its bytes, what waits, what a cut and a failure leave; and a disk in memory. No condition. | A write waits: by contract. No condition but that it is a sector's, and fewer than 2^40 wait. -/
import Derived.Test.YtlogjpmdfimgdaaGreatDoorZ08
import Derived.Test.YtlogjpmdfimgdaaGreatDoorZ04
import Derived.Deep.RegionLaw
namespace Go.Proofs.YtlogjpmdfimgdaaGreatDoor.Jf
open Go.RowKit Go.Own.Jf

section
variable (w : World) (l : List Obj) (d i : Nat) {p : Option Addr} {m c : Nat} {vl vw : Value} {n : Nat} {a : Int} {k : Nat} {t : Int}
theorem refused_down {vs : Value} (x : Int) (h : l[i]? = some (.cells (dc vs vl vw n a k t true) 104 (0, 0))) :
    Calls Tryz.prog 126 #[.pointer (some ⟨w.heap.size + i, 0, none⟩), .int .i64 x] (Wd w l d) fun e w' => e = .returned (.int .i64 7) ∧ Wd w l d = w' := by
  go_enter Tryz.func126, Tryz.ntmps126
  go_wp2
  go_ret
  exact ⟨rfl, rfl⟩
theorem refused_range (x : Int) (hx : x < 0 ∨ (m : Int) ≤ x) (h : l[i]? = some (.cells (dc (.slice p m c) vl vw n a k t false) 104 (0, 0))) :
    Calls Tryz.prog 126 #[.pointer (some ⟨w.heap.size + i, 0, none⟩), .int .i64 x] (Wd w l d) fun e w' => e = .returned (.int .i64 1) ∧ Wd w l d = w' := by
  by_cases h0 : x < 0
  · clear hx
    go_enter Tryz.func126, Tryz.ntmps126
    go_wp2
    go_ret
    exact ⟨rfl, rfl⟩
  · have h1 : (m : Int) ≤ x := by omega
    clear hx
    go_enter Tryz.func126, Tryz.ntmps126
    go_wp2
    go_ret
    exact ⟨rfl, rfl⟩
theorem refused_ok (x : Nat) (hx : x < m) (h : l[i]? = some (.cells (dc (.slice p m c) vl vw n a k t false) 104 (0, 0))) :
    Calls Tryz.prog 126 #[.pointer (some ⟨w.heap.size + i, 0, none⟩), .int .i64 (x : Int)] (Wd w l d) fun e w' => e = .returned (.int .i64 0) ∧ Wd w l d = w' := by
  have h0 : ¬ (x : Int) < 0 := by omega
  have h1 : ¬ m ≤ x := by omega
  go_enter Tryz.func126, Tryz.ntmps126
  go_wp2
  go_ret
  exact ⟨rfl, rfl⟩
/-- What an arm leaves of a cut. -/
def armA (x : Int) : Int := if x < 1 then 0 else x
def armK (x : Int) (y : Nat) : Nat := if x < 1 then 0 else y
def armT (x y : Int) : Int := if x < 1 then 0 else y
end

theorem ba64l (a n : Nat) : bits .and .u64 (a : Int) (no_index (OfNat.ofNat n)) = ((and64 a n : Nat) : Int) := ba64 a n
attribute [go_sem] ba64l
/-- How many first bytes are torn off: the nearer of 0 and 64. -/
def clampN (t : Int) : Nat := (min (max t 0) 64).toNat
/-- How many first bytes of the i-th write last, of which 'last' is the last one. -/
def keptN (k : Nat) (t last : Int) (i : Nat) : Nat := if and64 (shr64 k i) 1 = 0 then 0 else if (i : Int) = last then clampN t else 64
theorem clampN_le (t : Int) : clampN t ≤ 64 := by unfold clampN; omega
theorem keptN_le (k : Nat) (t last : Int) (i : Nat) : keptN k t last i ≤ 64 := by
  unfold keptN
  split
  · omega
  · split
    · exact clampN_le t
    · exact Nat.le_refl _
theorem clamp_eq (t : Int) : ((clampN t : Nat) : Int) = min (max t 0) 64 := by unfold clampN; omega
theorem keep_any (w : World) (l : List Obj) (d i1 i2 i3 : Nat) {k : Nat} {t last : Int} {f1 f2 f3 : Nat × Nat} (h1 : l[i1]? = some (.cells #[.int .u64 (k : Int)] 39 f1)) (h2 : l[i2]? = some (.cells #[.int .i64 last] 3 f2)) (h3 : l[i3]? = some (.cells #[.int .i64 t] 3 f3)) (i : Nat) (hi : i < 64) :
    Calls Tryz.prog 159 #[.int .i64 (i : Int), .pointer (some ⟨w.heap.size + i1, 0, none⟩), .pointer (some ⟨w.heap.size + i2, 0, none⟩), .pointer (some ⟨w.heap.size + i3, 0, none⟩)] (Wd w l d) fun e w' => e = .returned (.int .i64 ((keptN k t last i : Nat) : Int)) ∧ Wd w l d = w' := by
  have hi8 : i ≤ 64 := by omega
  by_cases h0 : and64 (shr64 k i) 1 = 0
  · have e1 := Lib.hid (show keptN k t last i = 0 by unfold keptN; rw [if_pos h0])
    go_enter Tryz.func159, Tryz.ntmps159
    go_wp2
    go_ret
    exact ⟨by rw [e1.out]; rfl, rfl⟩
  · have h0' : (((and64 (shr64 k i) 1 : Nat) : Int) == 0) = false := by rw [beq_eq_false_iff_ne]; omega
    by_cases h4 : (i : Int) = last
    · have e1 := Lib.hid (show ((keptN k t last i : Nat) : Int) = min (max t 0) 64 by unfold keptN; rw [if_neg h0, if_pos h4, clamp_eq])
      have h4' : ((i : Int) == last) = true := by rw [beq_iff_eq]; exact h4
      clear h0 h4
      by_cases ht : t < 0
      · have e2 := Lib.hid (show min (max t 0) 64 = 0 by omega)
        go_enter Tryz.func159, Tryz.ntmps159
        go_wp2
        go_ret
        exact ⟨by rw [e1.out, e2.out]; rfl, rfl⟩
      · by_cases ht2 : 64 < t
        · have e2 := Lib.hid (show min (max t 0) 64 = 64 by omega)
          go_enter Tryz.func159, Tryz.ntmps159
          go_wp2
          go_ret
          exact ⟨by rw [e1.out, e2.out]; rfl, rfl⟩
        · have e2 := Lib.hid (show min (max t 0) 64 = t by omega)
          go_enter Tryz.func159, Tryz.ntmps159
          go_wp2
          go_ret
          exact ⟨by rw [e1.out, e2.out]; rfl, rfl⟩
    · have e1 := Lib.hid (show keptN k t last i = 64 by unfold keptN; rw [if_neg h0, if_neg h4])
      have h4' : ((i : Int) == last) = false := by rw [beq_eq_false_iff_ne]; exact h4
      clear h0 h4
      go_enter Tryz.func159, Tryz.ntmps159
      go_wp2
      go_ret
      exact ⟨by rw [e1.out]; rfl, rfl⟩

theorem cpX_le {P : Program} {dT sT ty : TypeId} {w : World} {l : List Obj} {d i o n c : Nat} {s : ByteArray} {S : List Nat} {t : TypeId}
    (hu : P.underlying dT = some (.slice (P.elem dT))) (h1 : (sizeOf (P.elem dT)).run P (Wd w l d) = .ok 1 (Wd w l d)) (h2 : l[i]? = some (.cells (cv .u8 S) t (0, 0))) (hn : s.size ≤ n) (hfit : o + n ≤ S.length) :
    cpX P dT sT ty (some (.cells (cv .u8 S) t (0, 0))) w l d i o n c s = .ok (.int .i64 (s.size : Int)) (Wd w (l.set i (.cells (cv .u8 (spl S o (bys s))) t (0, 0))) d) := by
  have hx : (bys s).length = s.size := bys_length s
  have hr := run_storeCells_at P (w.heap.size + i) o t (cv .u8 (bys s)).toList 0 (cv .u8 S) (Wd w l d) (by rw [Wd_at]; exact h2) (by simp [hx]; omega) cv_oneCell
  rw [Nat.add_zero, spl_cv, Wd_setRow _ _ _ _ _ _ _ _ h2] at hr
  have hm : Nat.min s.size n = s.size := Nat.min_eq_left hn
  have hf' : (Builtin.firstCells 1 s.size (.string s)).run P (Wd w l d) = .ok (cv .u8 (bys s)) (Wd w l d) := by
    have : s.extract 0 s.size = s := by simp
    simp only [Builtin.firstCells, Sem.run_pure, this, cells_bys]
  simp [cpX, Builtin.copy_, run_underlying hu, Builtin.lenOf, h1, hm, hf', hr, goInt]
/-- Bytes filled up to a sector. -/
def filL (s : List Nat) : List Nat := spl (rep 64) 0 s
theorem filL_length {s : List Nat} (h : s.length ≤ 64) : (filL s).length = 64 := by unfold filL; rw [spl_length _ _ _ (by simpa using h), rep_length]
theorem filL_B8 {s : List Nat} (h : B8 s) : B8 (filL s) := (B8.rep 64).spl h 0
attribute [local go_sem] cpX_le
theorem filled_any (s : ByteArray) (hs : s.size ≤ 64) (w : World) :
    Calls Tryz.prog 138 #[.string s] w fun e w' => e = .returned (.agg (cv .u8 (filL (bys s)))) ∧ Grows w w' := by
  have hl : (spl (rep 64) 0 (bys s)).length = 64 := filL_length (by rw [bys_length]; exact hs)
  refine calls_wd ?_
  go_enter Tryz.func138, Tryz.ntmps138
  go_wp2
  exact ret_cell (i := 0) rfl rfl ag208 rfl hl rfl ⟨rfl, Grows.of _ _ _⟩
end Go.Proofs.YtlogjpmdfimgdaaGreatDoor.Jf
namespace Go.Proofs.YtlogjpmdfimgdaaGreatDoor.Jf
open Go.RowKit Go.Own.Jf

/-- The k-th sector. -/
def sec (x : List Nat) (k : Nat) : List Nat := (x.drop (k * 64)).take 64
theorem sec_length {x : List Nat} {k n : Nat} (h : x.length = n * 64) (hk : k < n) : (sec x k).length = 64 := by
  have : k * 64 + 64 ≤ n * 64 := by omega
  simp [sec]; omega
theorem sec_B8 {x : List Nat} (h : B8 x) (k : Nat) : B8 (sec x k) := (h.drop _).take _
theorem put_length {x s : List Nat} {k n : Nat} (h : x.length = n * 64) (hk : k < n) (hs : s.length ≤ 64) : (spl x (k * 64) s).length = n * 64 := by
  rw [spl_length _ _ _ (by omega), h]
/-- A disk. -/
structure Dk where
  n : Nat
  seen : List Nat
  last : List Nat
  wait : List (Nat × List Nat)
  count : Nat
  cat : Int
  keep : Nat
  torn : Int
  off : Bool
structure Dk.Ok (M : Dk) : Prop where
  n1 : 1 ≤ M.n
  n2 : M.n ≤ 4096
  seenL : M.seen.length = M.n * 64
  lastL : M.last.length = M.n * 64
  seenB : B8 M.seen
  lastB : B8 M.last
  waitO : ∀ p ∈ M.wait, p.1 < M.n ∧ p.2.length = 64 ∧ B8 p.2
  waitL : M.wait.length = min M.count 64
  cat0 : 0 ≤ M.cat
  cat1 : M.cat ≤ 9223372036854775807

/-- A write waits. -/
def Dk.waited (M : Dk) (a : Nat) (x : List Nat) : Dk :=
  { M with seen := spl M.seen (a * 64) x, wait := if M.count < 64 then M.wait ++ [(a, x)] else M.wait, count := M.count + 1 }
theorem Dk.Ok.waited {M : Dk} (h : M.Ok) {a : Nat} {x : List Nat} (ha : a < M.n) (hx : x.length = 64) (hB : B8 x) : (M.waited a x).Ok := by
  refine ⟨h.n1, h.n2, put_length h.seenL ha (by omega), h.lastL, h.seenB.spl hB _, h.lastB, ?_, ?_, h.cat0, h.cat1⟩
  · intro p hp
    simp only [Dk.waited] at hp ⊢
    split at hp
    · rcases List.mem_append.1 hp with hp | hp
      · exact h.waitO p hp
      · obtain rfl := List.mem_singleton.1 hp
        exact ⟨ha, hx, hB⟩
    · exact h.waitO p hp
  · have := h.waitL
    simp only [Dk.waited]
    split
    · rw [List.length_append, List.length_singleton]; omega
    · omega
/-- What waits is settled: 'to' becomes 'src'. -/
def settleL (to src : List Nat) (ws : List (Nat × List Nat)) : List Nat := ws.foldl (fun t p => spl t (p.1 * 64) (sec src p.1)) to
def Dk.settled (M : Dk) (to src : List Nat) : List Nat := settleL (if M.wait.length < M.count then src else to) src M.wait
/-- What lasts of the writes ws, whose first one has the number i. -/
def tearL (k : Nat) (t last : Int) : Nat → List Nat → List (Nat × List Nat) → List Nat
  | _, x, [] => x
  | i, x, p :: ws => tearL k t last (i + 1) (spl x (p.1 * 64) (p.2.take (keptN k t last i))) ws
/-- The power fails. -/
def Dk.torned (M : Dk) (k : Nat) (t : Int) : List Nat := tearL k t ((M.count : Int) - 1) 0 M.last M.wait
def Dk.crash (M : Dk) (k : Nat) (t : Int) : Dk :=
  if M.off then M else { M with seen := M.settled M.seen (M.torned k t), last := M.torned k t, wait := [], count := 0, cat := 0, keep := 0, torn := 0, off := true }
/-- A write or a flush is counted; did the power fail? -/
def Dk.counted (M : Dk) : Dk × Nat :=
  if M.cat = 0 then (M, 0) else if 0 < M.cat - 1 then ({ M with cat := M.cat - 1 }, 0) else (({ M with cat := M.cat - 1 } : Dk).crash M.keep M.torn, 7)
def refE (o : Bool) (n : Nat) (x : Int) : Nat := if o then 7 else if x < 0 ∨ (n : Int) ≤ x then 1 else 0
def Dk.write (M : Dk) (x : Int) (s : List Nat) : Dk × Nat :=
  if refE M.off M.n x = 0 then (if 64 < s.length then (M, 3) else (M.waited x.toNat (filL s)).counted) else (M, refE M.off M.n x)
def Dk.read (M : Dk) (x : Int) : List Nat × Nat := if refE M.off M.n x = 0 then (sec M.seen x.toNat, 0) else ([], refE M.off M.n x)
def Dk.flushed (M : Dk) : Dk := { M with last := M.settled M.last M.seen, wait := [], count := 0 }
def Dk.flush (M : Dk) : Dk × Nat :=
  if M.off then (M, 7) else if M.counted.2 = 0 then (M.counted.1.flushed, 0) else M.counted
def Dk.arm (M : Dk) (a : Int) (k : Nat) (t : Int) : Dk := { M with cat := armA a, keep := armK a k, torn := armT a t }
def Dk.start (M : Dk) : Dk := { M with off := false }
def newK (n : Nat) : Dk := ⟨n, rep (n * 64), rep (n * 64), [], 0, 0, 0, 0, false⟩

theorem settleL_length {src : List Nat} {n : Nat} (hs : src.length = n * 64) : ∀ (ws : List (Nat × List Nat)) (to : List Nat), to.length = n * 64 → (∀ p ∈ ws, p.1 < n) → (settleL to src ws).length = n * 64
  | [], _, h, _ => h
  | p :: ws, _, h, hp => by
    have hp0 := hp p (by simp)
    exact settleL_length hs ws _ (put_length h hp0 (by rw [sec_length hs hp0]; omega)) fun q hq => hp q (by simp [hq])
theorem settleL_B8 {src : List Nat} (hs : B8 src) : ∀ (ws : List (Nat × List Nat)) (to : List Nat), B8 to → B8 (settleL to src ws)
  | [], _, h => h
  | _ :: ws, _, h => settleL_B8 hs ws _ (h.spl (sec_B8 hs _) _)
theorem tearL_length {k : Nat} {t last : Int} {n : Nat} : ∀ (ws : List (Nat × List Nat)) (i : Nat) (x : List Nat), x.length = n * 64 → (∀ p ∈ ws, p.1 < n ∧ p.2.length = 64) → (tearL k t last i x ws).length = n * 64
  | [], _, _, h, _ => h
  | p :: ws, i, x, h, hp => by
    have hp0 := hp p (by simp)
    exact tearL_length ws _ _ (put_length h hp0.1 (by rw [List.length_take, hp0.2]; omega)) fun q hq => hp q (by simp [hq])
theorem tearL_B8 {k : Nat} {t last : Int} : ∀ (ws : List (Nat × List Nat)) (i : Nat) (x : List Nat), B8 x → (∀ p ∈ ws, B8 p.2) → B8 (tearL k t last i x ws)
  | [], _, _, h, _ => h
  | p :: ws, i, x, h, hp => tearL_B8 ws _ _ (h.spl ((hp p (by simp)).take _) _) fun q hq => hp q (by simp [hq])
theorem Dk.Ok.settledL {M : Dk} (h : M.Ok) {to src : List Nat} (ht : to.length = M.n * 64) (hs : src.length = M.n * 64) : (M.settled to src).length = M.n * 64 := by
  unfold Dk.settled
  refine settleL_length hs _ _ ?_ fun p hp => (h.waitO p hp).1
  split <;> assumption
theorem Dk.Ok.settledB {M : Dk} {to src : List Nat} (ht : B8 to) (hs : B8 src) : B8 (M.settled to src) := by
  unfold Dk.settled
  refine settleL_B8 hs _ _ ?_
  split <;> assumption
theorem Dk.Ok.tornedL {M : Dk} (h : M.Ok) (k : Nat) (t : Int) : (M.torned k t).length = M.n * 64 := tearL_length _ _ _ h.lastL fun p hp => ⟨(h.waitO p hp).1, (h.waitO p hp).2.1⟩
theorem Dk.Ok.tornedB {M : Dk} (h : M.Ok) (k : Nat) (t : Int) : B8 (M.torned k t) := tearL_B8 _ _ _ h.lastB fun p hp => (h.waitO p hp).2.2
theorem Dk.Ok.crash {M : Dk} (h : M.Ok) (k : Nat) (t : Int) : (M.crash k t).Ok := by
  unfold Dk.crash
  split
  · exact h
  · exact ⟨h.n1, h.n2, h.settledL h.seenL (h.tornedL k t), h.tornedL k t, Dk.Ok.settledB h.seenB (h.tornedB k t), h.tornedB k t, fun p hp => by simp at hp, by simp, by simp, by simp⟩
theorem Dk.Ok.cut {M : Dk} (h : M.Ok) (hc : M.cat ≠ 0) : ({ M with cat := M.cat - 1 } : Dk).Ok :=
  ⟨h.n1, h.n2, h.seenL, h.lastL, h.seenB, h.lastB, h.waitO, h.waitL, by have := h.cat0; show 0 ≤ M.cat - 1; omega, by have := h.cat1; show M.cat - 1 ≤ _; omega⟩
theorem Dk.Ok.counted {M : Dk} (h : M.Ok) : M.counted.1.Ok := by
  unfold Dk.counted
  split
  · exact h
  · rename_i hc
    split
    · exact h.cut hc
    · exact (h.cut hc).crash _ _
theorem Dk.Ok.flushed {M : Dk} (h : M.Ok) : M.flushed.Ok :=
  ⟨h.n1, h.n2, h.seenL, h.settledL h.lastL h.seenL, h.seenB, Dk.Ok.settledB h.lastB h.seenB, fun p hp => by simp [Dk.flushed] at hp, by simp [Dk.flushed], h.cat0, h.cat1⟩
theorem Dk.Ok.flush {M : Dk} (h : M.Ok) : M.flush.1.Ok := by
  unfold Dk.flush
  split
  · exact h
  · split
    · exact h.counted.flushed
    · exact h.counted
theorem Dk.Ok.write {M : Dk} (h : M.Ok) {x : Int} {s : List Nat} (hB : B8 s) : (M.write x s).1.Ok := by
  unfold Dk.write
  split
  · rename_i hr
    split
    · exact h
    · rename_i h64
      refine (h.waited ?_ (filL_length (by omega)) (filL_B8 hB)).counted
      unfold refE at hr
      split at hr
      · cases hr
      · split at hr
        · cases hr
        · omega
  · exact h
theorem Dk.Ok.arm {M : Dk} (h : M.Ok) {a : Int} {k : Nat} {t : Int} (ha : a ≤ 9223372036854775807) : (M.arm a k t).Ok :=
  ⟨h.n1, h.n2, h.seenL, h.lastL, h.seenB, h.lastB, h.waitO, h.waitL, by simp only [Dk.arm, armA]; split <;> omega, by simp only [Dk.arm, armA]; split <;> omega⟩
theorem Dk.Ok.start {M : Dk} (h : M.Ok) : M.start.Ok := ⟨h.n1, h.n2, h.seenL, h.lastL, h.seenB, h.lastB, h.waitO, h.waitL, h.cat0, h.cat1⟩
theorem newK_ok {n : Nat} (h1 : 1 ≤ n) (h2 : n ≤ 4096) : (newK n).Ok := ⟨h1, h2, by simp [newK], by simp [newK], B8.rep _, B8.rep _, fun p hp => by simp [newK] at hp, rfl, by simp [newK], by simp [newK]⟩

/-- The cells of writes, one behind the other. -/
def wcs (ws : List (Nat × List Nat)) : List Value := ws.flatMap fun p => (wv p.1 p.2).toList
theorem wcs_append (a b : List (Nat × List Nat)) : wcs (a ++ b) = wcs a ++ wcs b := by simp [wcs]
theorem wcs_one (a : Nat) (x : List Nat) : wcs [(a, x)] = (wv a x).toList := by simp [wcs]
theorem wcs_get : ∀ {ws : List (Nat × List Nat)} {k a : Nat} {x : List Nat}, (∀ p ∈ ws, p.2.length = 64) → ws[k]? = some (a, x) → ((wcs ws).drop (k * 65)).take 65 = (wv a x).toList
  | [], k, a, x, _, h => by simp at h
  | p :: ws, 0, a, x, hp, h => by
    obtain rfl : p = (a, x) := by simpa using h
    have hl : (wv a x).toList.length = 65 := by rw [Array.length_toList, wv_size, hp (a, x) (by simp)]
    rw [Nat.zero_mul, List.drop_zero]
    show ((wv a x).toList ++ wcs ws).take 65 = _
    rw [List.take_append_of_le_length (by omega), List.take_of_length_le (by omega)]
  | p :: ws, k + 1, a, x, hp, h => by
    have hl : (wv p.1 p.2).toList.length = 65 := by rw [Array.length_toList, wv_size, hp p (by simp)]
    have ih := wcs_get (ws := ws) (k := k) (a := a) (x := x) (fun q hq => hp q (by simp [hq])) (by simpa using h)
    show (((wv p.1 p.2).toList ++ wcs ws).drop ((k + 1) * 65)).take 65 = _
    rw [show (k + 1) * 65 = (wv p.1 p.2).toList.length + k * 65 by omega, List.drop_append, List.drop_of_length_le (by omega), List.nil_append, Nat.add_sub_cancel_left]
    exact ih

/-- A disk at place i, its sectors at s and q; what waits lies in vw. The others' blocks are O's. -/
structure DAt (w : World) (l : List Obj) (i s q : Nat) (vw : Value) (O : Nat → Prop) (M : Dk) : Prop where
  hd : l[i]? = some (.cells (dc (.slice (some ⟨w.heap.size + s, 0, none⟩) M.n M.n) (.slice (some ⟨w.heap.size + q, 0, none⟩) M.n M.n) vw M.count M.cat M.keep M.torn M.off) 104 (0, 0))
  hs : l[s]? = some (.cells (cv .u8 M.seen) 208 (0, 0))
  hq : l[q]? = some (.cells (cv .u8 M.last) 208 (0, 0))
  hw : RowV (fun p => ¬ O p ∧ p ≠ i ∧ p ≠ s ∧ p ≠ q) w l 65 M.wait.length vw (wcs M.wait)
  is : i ≠ s
  iq : i ≠ q
  sq : s ≠ q
  Oi : ¬ O i
  Os : ¬ O s
  Oq : ¬ O q
  ok : M.Ok
theorem DAt.keep {w : World} {l l' : List Obj} {i s q : Nat} {vw : Value} {O O' : Nat → Prop} {M : Dk} (h : DAt w l i s q vw O M) (hl : ∀ p, ¬ O p → p < l.length → ¬ O' p ∧ l'[p]? = l[p]?) : DAt w l' i s q vw O' M := by
  have li := hl i h.Oi (List.getElem?_eq_some_iff.1 h.hd).1
  have ls := hl s h.Os (List.getElem?_eq_some_iff.1 h.hs).1
  have lq := hl q h.Oq (List.getElem?_eq_some_iff.1 h.hq).1
  exact ⟨by rw [li.2]; exact h.hd, by rw [ls.2]; exact h.hs, by rw [lq.2]; exact h.hq, h.hw.mono fun p hp hlt => ⟨⟨(hl p hp.1 hlt).1, hp.2⟩, (hl p hp.1 hlt).2⟩, h.is, h.iq, h.sq, li.1, ls.1, lq.1, h.ok⟩
/-- What a disk's call leaves of the others' blocks. -/
def Kp (O : Nat → Prop) (l l' : List Obj) : Prop := l.length ≤ l'.length ∧ ∀ p, O p → p < l.length → l'[p]? = l[p]?
theorem Kp.refl (O : Nat → Prop) (l : List Obj) : Kp O l l := ⟨Nat.le_refl _, fun _ _ _ => rfl⟩
theorem Kp.trans {O : Nat → Prop} {a b c : List Obj} (h : Kp O a b) (k : Kp O b c) : Kp O a c :=
  ⟨Nat.le_trans h.1 k.1, fun p hp hlt => by rw [k.2 p hp (Nat.lt_of_lt_of_le hlt h.1), h.2 p hp hlt]⟩
theorem Kp.app (O : Nat → Prop) (l g : List Obj) : Kp O l (l ++ g) := ⟨by simp, fun p _ hlt => List.getElem?_append_left hlt⟩
theorem Kp.set {O : Nat → Prop} {l : List Obj} {i : Nat} (h : ¬ O i) (X : Obj) : Kp O l (l.set i X) :=
  ⟨by simp, fun p hp _ => by
    have hne : i ≠ p := fun e => by subst e; exact h hp
    rw [List.getElem?_set_ne hne]⟩
end Go.Proofs.YtlogjpmdfimgdaaGreatDoor.Jf
namespace Go.Proofs.YtlogjpmdfimgdaaGreatDoor.Jf
open Go.RowKit Go.Own.Jf

section
variable {P : Program} {T : TypeId} {b : Nat} {W : World} {a : Nat} {x : List Nat} {ty : TypeId} {f : Nat × Nat}
theorem ldW (hx : x.length = 64) (h1 : aggSize P T = some 65) (h2 : blk W b = some (.cells (wv a x) ty f)) : ldX P T (some 65) (some (.cells (wv a x) ty f)) b 0 W = .ok (.agg (wv a x)) W := by
  rw [ldX_mix h1 h2 (by rw [wv_size]; omega), Nat.zero_add, show 65 = (wv a x).size by rw [wv_size, hx], Array.extract_size]
theorem ldW0 (ha : (isAgg T).run P W = .ok false W) (h2 : blk W b = some (.cells (wv a x) ty f)) : ldX P T none (some (.cells (wv a x) ty f)) b 0 W = .ok (.int .i64 (a : Int)) W :=
  ldX_mix1 ha h2 (by rw [← Array.getElem?_toList, wv_list]; rfl)
theorem wv_data (hx : x.length = 64) : (wv a x).extract 1 (1 + 64) = cv .u8 x := by
  apply Array.ext'
  rw [Array.toList_extract, wv_list, List.extract_eq_take_drop]
  show ((cv .u8 x).toList).take 64 = _
  rw [List.take_of_length_le (by rw [Array.length_toList, cv_size, hx]; exact Nat.le_refl _)]
theorem ldW1 (hx : x.length = 64) (h1 : aggSize P T = some 64) (h2 : blk W b = some (.cells (wv a x) ty f)) : ldX P T (some 64) (some (.cells (wv a x) ty f)) b 1 W = .ok (.agg (cv .u8 x)) W := by
  rw [ldX_mix h1 h2 (by rw [wv_size]; omega), wv_data hx]
end
def bsN (T : TypeId) (n : Nat) (parts : Array (Nat × Value)) : Sem Value := Instr.buildSlice T n parts
@[go_sem ↓] theorem execOp_bs (ρ : Operand → Value) (dst : Option Tmp) (T : TypeId) (n : Nat) (parts : Array (Nat × Operand)) (ty : TypeId) (pos : String) (after : Array Edge) (guard : Option (Nat × Bool)) :
    execOp ρ { dst, op := .buildSlice T n parts, type := ty, pos, after, guard } = (bsN T n (parts.map fun (i, x) => (i, ρ x)) >>= fun v => pure (.value v)) := rfl
theorem stD3s {P : Program} {T : TypeId} {vs vl vw : Value} {n : Nat} {a : Int} {k : Nat} {t : Int} {o : Bool} {ty : TypeId} {w : World} {l : List Obj} {d i m : Nat} (h1 : (sizeOf T).run P (Wd w l d) = .ok 1 (Wd w l d)) (h2 : l[i]? = some (.cells (dc vs vl vw n a k t o) ty (0, 0))) :
    stX P T 1 (some (.cells (dc vs vl vw n a k t o) ty (0, 0))) w l d i 3 (.int .i64 ((m : Int) + 1)) = .ok () (Wd w (l.set i (.cells (dc vs vl vw (m + 1) a k t o) ty (0, 0))) d) := by
  rw [stX_mix1 h1 rfl h2 (by rw [dc_size]; omega)]; rfl
theorem stD2v {P : Program} {T : TypeId} {vs vl vw v : Value} {n : Nat} {a : Int} {k : Nat} {t : Int} {o : Bool} {ty : TypeId} {w : World} {l : List Obj} {d i : Nat} (h1 : (sizeOf T).run P (Wd w l d) = .ok 1 (Wd w l d)) (hv : v.oneCell' = true) (h2 : l[i]? = some (.cells (dc vs vl vw n a k t o) ty (0, 0))) :
    stX P T 1 (some (.cells (dc vs vl vw n a k t o) ty (0, 0))) w l d i 2 v = .ok () (Wd w (l.set i (.cells (dc vs vl v n a k t o) ty (0, 0))) d) := by
  rw [stX_mix1 h1 hv h2 (by rw [dc_size]; omega)]; rfl
theorem RowV.one {A : Nat → Prop} {w : World} {l : List Obj} {sz n : Nat} {v : Value} {C : List Value} (h : RowV A w l sz n v C) : v.oneCell' = true := by
  rcases h with ⟨rfl, _⟩ | ⟨_, _, _, _, _, rfl, _⟩ <;> rfl
theorem RowV.notAt {A : Nat → Prop} {w : World} {l : List Obj} {sz n : Nat} {v : Value} {C : List Value} (h : RowV A w l sz n v C) {p : Nat} (hp : ¬ A p) : NotAt w v p := by
  rcases h with ⟨rfl, _⟩ | ⟨i, c, X, t, hA, rfl, _⟩
  · intro n c e; simp at e
  · intro n' c' e
    simp at e
    exact hp (e.1 ▸ hA)
/-- A slice of one element that is built in place. -/
theorem bs_one {P : Program} {T E n : Nat} {z c : Array Value} (hT : P.underlying T = some (.slice E)) (hs : ∀ W, (sizeOf E).run P W = .ok n W) (hz : zeroOf P E = .agg z) (hn : 0 < n ∧ n ≤ 1000) (hc : c.size = n) (w : World) (l : List Obj) (d : Nat) :
    (bsN T 1 #[(0, .agg c)]).run P (Wd w l d) = .ok (.slice (some ⟨w.heap.size + l.length, 0, none⟩) 1 1) (Wd w (l ++ [.cells c E (0, 0)]) d) := by
  have hmap : ((Array.range (1 * n)).map (fun i => z[i % z.size]!)).size = n := by simp
  generalize hA : (Array.range (1 * n)).map (fun i => z[i % z.size]!) = A at hmap
  have hf := foldl_set 0 c.toList 0 A (by simp; omega)
  have hfill : Instr.fill (fun i => some (i * n, n)) A [(0, .agg c)] = some c := by
    unfold Instr.fill
    simp only [Value.cells, hc, Nat.zero_mul, Nat.zero_add]
    rw [if_neg (by simp; omega)]
    unfold Instr.fill
    have e : c.zipIdx.foldl (fun cs (c, j) => cs.setIfInBounds (0 + j) c) A = c := by
      rw [← Array.foldl_toList, Array.toList_zipIdx, hf]
      apply Array.ext'
      simp only [Nat.add_zero, List.take_zero, List.nil_append, Nat.zero_add]
      rw [List.drop_of_length_le (by simp; omega), List.append_nil]
    simp only [Nat.zero_add] at e
    rw [e]
  have h0 : ¬ n = 0 := by omega
  have h24 : ¬ 16777216 < n := by omega
  have hA' : (Array.range n).map (fun i => z[i % z.size]!) = A := by rw [← hA, Nat.one_mul]
  unfold bsN Instr.buildSlice
  simp [run_underlying hT, hs, h0, h24, run_zeroOf hz, Value.cells, hA', hfill, newRow, Wd_size, Wd_alloc]
theorem rt64 : RowT Tryz.prog 102 222 65 := ⟨Tryz.underlying102, by
  cases hi : Tryz.prog.info? 222 with
  | none => exact absurd hi (by have : (Tryz.prog.info? 222).isSome = true := by kernel_rfl
                                intro e; rw [e] at this; cases this)
  | some i =>
    have h := show (Tryz.prog.info? 222).map (fun i => (i.zero.map fun z => z.cells.size, i.size, decide (i.bytes ≤ 1048576))) = some (some 65, 65, true) by kernel_rfl
    rw [hi] at h
    simp at h
    obtain ⟨⟨z, hz, hzc⟩, hs, hb⟩ := h
    exact ⟨i, z, rfl, hz, hs, hzc, hb⟩⟩
theorem bs64 (a : Nat) (x : List Nat) (hx : x.length = 64) (w : World) (l : List Obj) (d : Nat) : (bsN 102 1 #[(0, .agg (wv a x))]).run Tryz.prog (Wd w l d) = .ok (.slice (some ⟨w.heap.size + l.length, 0, none⟩) 1 1) (Wd w (l ++ [.cells (wv a x) 222 (0, 0)]) d) :=
  bs_one Tryz.underlying102 sz222 z222 (by decide) (by rw [wv_size, hx]) w l d
attribute [local go_sem] stD2v bs64 stD3s ldW ldW0 ldW1 set_same app_left set_left at_mid' set_mid' List.getElem?_set_ne

set_option maxRecDepth 100000 in
set_option maxHeartbeats 1000000 in
theorem wait_any (w : World) (l : List Obj) (d i s q : Nat) (vw : Value) (O : Nat → Prop) (M : Dk) (a : Nat) (x : List Nat) (h : DAt w l i s q vw O M) (ha : a < M.n) (hx : x.length = 64) (hB : B8 x) (hc : M.count < 1099511627776) (hO : ∀ p, O p → p < l.length) :
    Calls Tryz.prog 137 #[.pointer (some ⟨w.heap.size + i, 0, none⟩), .agg (wv a x)] (Wd w l d) fun e w' => e = .returned (.tuple #[]) ∧ ∃ l' d' vw', w' = Wd w l' d' ∧ DAt w l' i s q vw' O (M.waited a x) ∧ Kp O l l' := by
  have hd := h.hd
  have hs := h.hs
  have hq := h.hq
  have is := h.is
  have iq := h.iq
  have sq := h.sq
  have si := h.is.symm
  have qi := h.iq.symm
  have qs := h.sq.symm
  have hsl := h.ok.seenL
  have hfit : a * 64 + 64 ≤ M.n * 64 := by omega
  have hai : (a : Int) < M.n := by omega
  have H := Lib.hid h
  have HO := Lib.hid hO
  clear h hO
  obtain ⟨n, seen, last, wait, count, cat, keep, torn, off⟩ := M
  simp only at hd hs hq hsl hfit hai ha hc
  have HA : Hid (∀ p, l.length ≤ p → ¬ O p ∧ p ≠ i ∧ p ≠ s ∧ p ≠ q) := Lib.hid fun p hp => by
    have li := (List.getElem?_eq_some_iff.1 hd).1
    have ls := (List.getElem?_eq_some_iff.1 hs).1
    have lq := (List.getElem?_eq_some_iff.1 hq).1
    exact ⟨fun h => by have := HO.out p h; omega, by omega, by omega, by omega⟩
  by_cases h64 : count < 64
  · have HW : Hid (∀ X g, RowV (fun p => ¬ O p ∧ p ≠ i ∧ p ≠ s ∧ p ≠ q) w (l.set s X ++ g) 65 wait.length vw (wcs wait)) := Lib.hid fun X g =>
      (H.out.hw.mono fun p hp _ => ⟨hp, List.getElem?_set_ne hp.2.2.1.symm⟩).more g
    have hwl : wait.length + 1 ≤ 1048576 := by
      have := H.out.ok.waitL
      simp only at this
      omega
    have HWL := Lib.hid hwl
    clear hwl
    go_enter Tryz.func137, Tryz.ntmps137
    go_wp2
    refine wp_region_tail 9 (by kernel_rfl) (by kernel_rfl) ?_
    simp only [List.take_succ_cons, List.take_zero, List.drop_succ_cons, List.drop_zero]
    repeat still_step
    refine wpStill_nil ?_
    go_wp2
    go_region_law (refine step_row rfl (.tmp 22) (.tmp 24) 102 222 rfl rt64 (A := fun p => ¬ O p ∧ p ≠ i ∧ p ≠ s ∧ p ≠ q) (B := fun _ => True) (fun p hp => HA.out p (by simp at hp; omega)) vw wait.length (wcs wait) rfl (by first | exact HW.out _ _ | (rw [List.append_assoc]; exact HW.out _ _)) (.slice (some ⟨w.heap.size + (l.length + 1), 0, none⟩) 1 1) 1 (wv a x).toList rfl (.inr ⟨l.length + 1, 1, (wv a x).toList, 222, trivial, rfl, at_next (List.length_set ..), by rw [Array.length_toList, wv_size, hx], by decide, List.take_of_length_le (by rw [Array.length_toList, wv_size, hx]; decide)⟩) (wv_one a x) HWL.out ?_; intro v' l' d' H1 H2 H3; have hv1 := RowV.one H1.out; have hl1 := (H3.out i (List.getElem?_eq_some_iff.1 (app_some (set_other si hd))).1 (RowV.notAt H.out.hw (fun h => h.2.1 rfl))).trans (app_some (set_other si hd)))
    all_goals
      have HS1 := Lib.hid ((H3.out s (List.getElem?_eq_some_iff.1 (app_some (set_some hs))).1 (RowV.notAt H.out.hw (fun h => h.2.2.1 rfl))).trans (app_some (set_some hs)))
      have HQ1 := Lib.hid ((H3.out q (List.getElem?_eq_some_iff.1 (app_some (set_other sq hq))).1 (RowV.notAt H.out.hw (fun h => h.2.2.2 rfl))).trans (app_some (set_other sq hq)))
      have HK1 : Hid (Kp O l l') := Lib.hid ⟨by have := H2.out; simp at this; omega, fun p hp hlt => by
        have hne : s ≠ p := fun e => by subst e; exact H.out.Os hp
        rw [H3.out p (by simp; omega) (RowV.notAt H.out.hw (fun h => h.1 hp)), List.getElem?_append_left (by simpa using hlt), List.getElem?_set_ne hne]⟩
      go_wp2
      go_end0
      refine ⟨rfl, _, _, v', rfl, ?_, HK1.out.trans (Kp.set H.out.Oi _)⟩
      have HM : ({ n := n, seen := seen, last := last, wait := wait, count := count, cat := cat, keep := keep, torn := torn, off := off } : Dk).waited a x = { n := n, seen := spl seen (a * 64) x, last := last, wait := wait ++ [(a, x)], count := count + 1, cat := cat, keep := keep, torn := torn, off := off } := by unfold Dk.waited; rw [if_pos h64]
      have hok := H.out.ok.waited (a := a) (x := x) ha hx hB
      rw [HM] at hok ⊢
      refine ⟨set_some hl1, set_other is HS1.out, set_other iq HQ1.out, ?_, is, iq, sq, H.out.Oi, H.out.Os, H.out.Oq, hok⟩
      have hw' := H1.out.mono (l' := l'.set i (.cells (dc (.slice (some ⟨w.heap.size + s, 0, none⟩) n n) (.slice (some ⟨w.heap.size + q, 0, none⟩) n n) v' (count + 1) cat keep torn off) 104 (0, 0))) (B := fun p => ¬ O p ∧ p ≠ i ∧ p ≠ s ∧ p ≠ q) fun p hp _ => ⟨hp, List.getElem?_set_ne hp.2.1.symm⟩
      rw [List.length_append, wcs_append, wcs_one]
      exact hw'
  · have h64' : ¬ (count : Int) < 64 := by omega
    have HM : Hid (({ n := n, seen := seen, last := last, wait := wait, count := count, cat := cat, keep := keep, torn := torn, off := off } : Dk).waited a x = { n := n, seen := spl seen (a * 64) x, last := last, wait := wait, count := count + 1, cat := cat, keep := keep, torn := torn, off := off }) := Lib.hid (by unfold Dk.waited; rw [if_neg h64])
    go_enter Tryz.func137, Tryz.ntmps137
    go_wp2
    refine wp_region_tail 9 (by kernel_rfl) (by kernel_rfl) ?_
    simp only [List.take_succ_cons, List.take_zero, List.drop_succ_cons, List.drop_zero]
    repeat still_step
    refine wpStill_nil ?_
    go_wp2
    go_end0
    refine ⟨rfl, _, _, vw, rfl, ?_, ((Kp.set H.out.Os _).trans (Kp.set H.out.Oi _)).trans (Kp.app _ _ _)⟩
    rw [HM.out]
    have hok := H.out.ok.waited (a := a) (x := x) ha hx hB
    rw [HM.out] at hok
    refine ⟨app_some (set_some (set_other si hd)), app_some (set_other is (set_some hs)), app_some (set_other iq (set_other sq hq)), (H.out.hw.mono fun p hp _ => ⟨hp, ?_⟩).more _, is, iq, sq, H.out.Oi, H.out.Os, H.out.Oq, hok⟩
    rw [List.getElem?_set_ne hp.2.1.symm, List.getElem?_set_ne hp.2.2.1.symm]
end Go.Proofs.YtlogjpmdfimgdaaGreatDoor.Jf

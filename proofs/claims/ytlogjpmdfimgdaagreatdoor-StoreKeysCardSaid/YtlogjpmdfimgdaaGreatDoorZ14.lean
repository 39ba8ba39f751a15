/- The library's strings.Repeat and strings.Builder at this program: laid by the kit's own command and written out in plain words; strings.Clone. No condition but the sizes. | What a journal's values are in memory: a half, a journal, a record, a step: the laws to read, write and make them. No condition. -/
import Derived.Shelf.Strings.Repeat
import Derived.Shelf.Abstract
import Derived.Test.YtlogjpmdfimgdaaGreatDoorChecked
import Derived.Test.YtlogjpmdfimgdaaGreatDoorZ04
import Derived.Test.YtlogjpmdfimgdaaGreatDoorZ08
import Derived.Test.YtlogjpmdfimgdaaGreatDoorZ13
import Derived.Laws.Concat
namespace Go.Proofs.YtlogjpmdfimgdaaGreatDoor.Jf
open Go.RowKit Go.Own.Jf Go.Shelf

def layRepeat_ren : Go.Shelf.Ren := ⟨fun | 105 => 122 | 212 => 139 | 99 => 31 | 165 => 140 | 166 => 96 | 170 => 141 | 169 => 97 | 263 => 149 | 264 => 150 | 206 => 51 | 240 => 127 | 241 => 151 | 276 => 143 | 277 => 158 | n => n, fun | 9 => 9 | 3 => 3 | 4 => 4 | 20 => 20 | 0 => 0 | 46 => 154 | 109 => 223 | 5 => 5 | 72 => 177 | 76 => 181 | 51 => 195 | 146 => 240 | 53 => 39 | 148 => 242 | 70 => 175 | 37 => 140 | 75 => 180 | 127 => 209 | 164 => 227 | 80 => 143 | n => n, fun | n => n⟩
theorem layRepeat : Go.Proofs.Lays.n105 Tryz.prog layRepeat_ren := {
  mixed := by kernel_rfl
  f99 := Tryz.func31.trans (congrArg some (by kernel_rfl))
  f105 := Tryz.func122.trans (congrArg some (by kernel_rfl))
  f165 := Tryz.func140.trans (congrArg some (by kernel_rfl))
  f166 := Tryz.func96.trans (congrArg some (by kernel_rfl))
  f169 := Tryz.func97.trans (congrArg some (by kernel_rfl))
  f170 := Tryz.func141.trans (congrArg some (by kernel_rfl))
  f206 := Tryz.func51.trans (congrArg some (by kernel_rfl))
  f212 := Tryz.func139.trans (congrArg some (by kernel_rfl))
  f240 := Tryz.func127.trans (congrArg some (by kernel_rfl))
  f241 := Tryz.func151.trans (congrArg some (by kernel_rfl))
  f263 := Tryz.func149.trans (congrArg some (by kernel_rfl))
  f264 := Tryz.func150.trans (congrArg some (by kernel_rfl))
  f276 := Tryz.func143.trans (congrArg some (by kernel_rfl))
  f277 := Tryz.func158.trans (congrArg some (by kernel_rfl))
  t0 := Tryz.underlying0
  a0 := Tryz.isAgg0
  z0 := Tryz.sizeOf0
  v0 := Tryz.zeroValue0
  t3 := Tryz.underlying3
  a3 := Tryz.isAgg3
  z3 := Tryz.sizeOf3
  v3 := Tryz.zeroValue3
  t4 := Tryz.underlying4
  a4 := Tryz.isAgg4
  z4 := Tryz.sizeOf4
  v4 := Tryz.zeroValue4
  t5 := Tryz.underlying5
  a5 := Tryz.isAgg5
  z5 := Tryz.sizeOf5
  v5 := Tryz.zeroValue5
  t9 := Tryz.underlying9
  a9 := Tryz.isAgg9
  z9 := Tryz.sizeOf9
  v9 := Tryz.zeroValue9
  t20 := Tryz.underlying20
  a20 := Tryz.isAgg20
  z20 := Tryz.sizeOf20
  v20 := Tryz.zeroValue20
  t37 := Tryz.underlying140
  a37 := Tryz.isAgg140
  z37 := Tryz.sizeOf140
  v37 := Tryz.zeroValue140
  t46 := Tryz.underlying154
  a46 := Tryz.isAgg154
  z46 := Tryz.sizeOf154
  v46 := Tryz.zeroValue154
  t51 := Tryz.underlying195
  a51 := Tryz.isAgg195
  z51 := Tryz.sizeOf195
  v51 := Tryz.zeroValue195
  t53 := Tryz.underlying39
  a53 := Tryz.isAgg39
  z53 := Tryz.sizeOf39
  v53 := Tryz.zeroValue39
  t70 := Tryz.underlying175
  a70 := Tryz.isAgg175
  z70 := Tryz.sizeOf175
  v70 := Tryz.zeroValue175
  t72 := Tryz.underlying177
  a72 := Tryz.isAgg177
  z72 := Tryz.sizeOf177
  v72 := Tryz.zeroValue177
  t75 := Tryz.underlying180
  a75 := Tryz.isAgg180
  z75 := Tryz.sizeOf180
  v75 := Tryz.zeroValue180
  t76 := Tryz.underlying181
  a76 := Tryz.isAgg181
  z76 := Tryz.sizeOf181
  v76 := Tryz.zeroValue181
  t109 := Tryz.underlying223
  a109 := Tryz.isAgg223
  z109 := Tryz.sizeOf223
  v109 := Tryz.zeroValue223
  t127 := Tryz.underlying209
  a127 := Tryz.isAgg209
  z127 := Tryz.sizeOf209
  v127 := Tryz.zeroValue209
  t146 := Tryz.underlying240
  a146 := Tryz.isAgg240
  z146 := Tryz.sizeOf240
  v146 := Tryz.zeroValue240
  t148 := Tryz.underlying242
  a148 := Tryz.isAgg242
  z148 := Tryz.sizeOf242
  v148 := Tryz.zeroValue242
  t164 := Tryz.underlying227
  a164 := Tryz.isAgg227
  z164 := Tryz.sizeOf227
  v164 := Tryz.zeroValue227 }
theorem layExtra : Builder.Extra Tryz.prog layRepeat_ren := {
  sizeBuilder := by kernel_rfl
  liesBuilder := by kernel_rfl
  t5 := layRepeat.t5
  a5 := layRepeat.a5
  z5 := layRepeat.z5
  v5 := layRepeat.v5
  infoByte := by kernel_rfl
  cellsByte := by kernel_rfl
  sizeByte := by kernel_rfl
  neB5 := by decide }
/-- What lies as it lay up to a place: the world with other blocks behind that. -/
theorem below_wd {w W : World} {l g : List Obj} {d : Nat} (h : Below (w.heap.size + l.length) (Wd w (l ++ g) d) W) : ∃ g' d', W = Wd w (l ++ g') d' := by
  have hs := h.size
  rw [Wd_size, List.length_append] at hs
  refine ⟨W.heap.toList.drop (w.heap.size + l.length), W.drawn, ?_⟩
  have e : W.heap = w.heap ++ (l ++ W.heap.toList.drop (w.heap.size + l.length)).toArray := by
    apply Array.ext'
    rw [Array.toList_append, List.toList_toArray, ← List.append_assoc]
    have h1 : W.heap.toList.take (w.heap.size + l.length) = w.heap.toList ++ l := by
      apply List.ext_getElem?
      intro i
      rw [List.getElem?_take]
      split
      · rename_i hi
        have hb := h.block i hi
        rw [Array.getElem?_toList, hb]
        simp only [Wd, Array.getElem?_append, List.getElem?_append, List.getElem?_toArray, Array.length_toList, Array.getElem?_toList]
        by_cases h2 : i < w.heap.size
        · rw [if_pos h2, if_pos h2]
        · rw [if_neg h2, if_neg h2, if_pos (by omega)]
      · rename_i hi
        rw [List.getElem?_eq_none (by simp; omega)]
    rw [← h1, List.take_append_drop]
  have h1 := h.os
  have h2 := h.tape
  have h3 := h.output
  rcases W with ⟨hp, tp, dr, os, out⟩
  simp only [Wd] at h1 h2 h3
  subst h1 h2 h3
  exact congrArg (fun x => World.mk x w.tape dr w.os w.output) e
theorem below_grows {w W : World} {l : List Obj} {d : Nat} (h : Below (Wd w l d).heap.size (Wd w l d) W) : ∃ g d', W = Wd w (l ++ g) d' := by
  rw [Wd_size] at h
  have h' : Below (w.heap.size + l.length) (Wd w (l ++ []) d) W := by rw [List.append_nil]; exact h
  exact below_wd h'
theorem repeatL_mk (b : UInt8) : ∀ n, Lib.repeatL [b] n = List.replicate n b
  | 0 => rfl
  | n + 1 => by
    have := Lib.repeatL_replicate b 1 (n + 1)
    simpa using this
/-- So many bytes 0. -/
theorem repeat_any (w : World) (l : List Obj) (d n : Nat) (hn : n ≤ 1000000) :
    Calls Tryz.prog 122 #[.string ⟨#[0]⟩, .int .i64 (n : Int)] (Wd w l d) fun e w' => e = .returned (.string (mkS (rep n))) ∧ ∃ g d', w' = Wd w (l ++ g) d' := by
  refine (Any.strings_Repeat layRepeat layExtra ⟨#[0]⟩ n (Wd w l d) (by omega) (by show 1 * n ≤ _; omega)).mono ?_
  rintro e w' ⟨rfl, h⟩
  refine ⟨?_, below_grows h⟩
  congr 2
  show ByteArray.mk _ = ByteArray.mk _
  congr 2
  show Lib.repeatL [0] n = (rep n).map UInt8.ofNat
  rw [repeatL_mk, rep, List.map_replicate]; rfl
/-- A builder that lies at a place behind l. -/
def Bu (w : World) (l : List Obj) (W : World) (bs : List Nat) : Prop :=
  (∃ g d, W = Wd w (l ++ g) d) ∧ Lib.IsBuilder 177 5 (w.heap.size + l.length) (w.heap.size + l.length) (cv .u8 bs).toList W
theorem strCells_cv (s : ByteArray) : Lib.strCells s = (cv .u8 (bys s)).toList := by simp [Lib.strCells, cv, bys]
theorem byteCells_cv (l : List Nat) (h : B8 l) : Lib.byteCells (l.map UInt8.ofNat) = (cv .u8 l).toList := by
  simp only [Lib.byteCells, cv, List.map_map]
  apply List.map_congr_left
  intro n hn
  have := h n hn
  simp; omega
theorem bu_write {w : World} {l : List Obj} {W : World} {bs : List Nat} (h : Bu w l W bs) (s : ByteArray) (hs : bs.length + s.size ≤ 1099511627776) :
    Calls Tryz.prog 96 #[.pointer (some ⟨w.heap.size + l.length, 0, none⟩), .string s] W fun e w' => e = .returned (.tuple #[.int .i64 s.size, .nilIface]) ∧ Bu w l w' (bs ++ bys s) := by
  obtain ⟨⟨g, d, rfl⟩, hb⟩ := h
  have hsz : w.heap.size + l.length ≤ (Wd w (l ++ g) d).heap.size := by rw [Wd_size]; simp
  refine (Any.Builder_WriteString { layRepeat with } layExtra _ _ _ s _ hb (by simp [cv]; omega) hsz).mono ?_
  rintro e w' ⟨rfl, h1, h2⟩
  refine ⟨rfl, below_wd h2, .inr ?_⟩
  have e : (cv .u8 bs).toList ++ Lib.strCells s = (cv .u8 (bs ++ bys s)).toList := by rw [strCells_cv]; simp [cv]
  rw [e] at h1
  exact h1
theorem bu_string {w : World} {l : List Obj} {W : World} {bs : List Nat} (h : Bu w l W bs) (h8 : B8 bs) :
    Calls Tryz.prog 97 #[.pointer (some ⟨w.heap.size + l.length, 0, none⟩)] W fun e w' => e = .returned (.string (mkS bs)) ∧ ∃ g d, w' = Wd w (l ++ g) d := by
  obtain ⟨⟨g, d, rfl⟩, hb⟩ := h
  have hsz : w.heap.size + l.length ≤ (Wd w (l ++ g) d).heap.size := by rw [Wd_size]; simp
  rw [← byteCells_cv bs h8] at hb
  refine (Any.Builder_String_any { layRepeat with } layExtra _ _ (bs.map UInt8.ofNat) _ hb hsz).mono ?_
  rintro e w' ⟨rfl, h2⟩
  exact ⟨rfl, below_wd h2⟩
theorem bu_new (w : World) (l : List Obj) (d : Nat) : Bu w l (Wd w (l ++ [.cells #[.pointer none, .slice none 0 0] 177 (0, 0)]) d) [] := by
  refine ⟨⟨_, _, rfl⟩, .inl ⟨Nat.le_refl _, .slice none 0 0, ?_, ?_, by simp [Value.ownBlock]⟩⟩
  · rw [Wd_at]; simp
  · exact World.ownsRow_nil ..
end Go.Proofs.YtlogjpmdfimgdaaGreatDoor.Jf
namespace Go.Own.Jf
open Go Go.RowKit

/-- A half's cells. -/
def hcl (dv : Value) (a n g : Nat) (vt : Value) (u : Nat) : Array Value := #[dv, .int .i64 (a : Int), .int .i64 (n : Int), .int .u64 (g : Int), vt, .int .i64 (u : Int)]
/-- A journal's. -/
def jcl (dv : Value) (a n g : Nat) (vt : Value) (u : Nat) (o : Bool) : Array Value := #[dv, .int .i64 (a : Int), .int .i64 (n : Int), .int .u64 (g : Int), vt, .int .i64 (u : Int), .bool o]
/-- A record's. -/
def rcl (g n : Nat) (t : ByteArray) : Array Value := #[.int .u64 (g : Int), .int .u64 (n : Int), .string t]
theorem hcl_size (dv : Value) (a n g : Nat) (vt : Value) (u : Nat) : (hcl dv a n g vt u).size = 6 := rfl
theorem jcl_size (dv : Value) (a n g : Nat) (vt : Value) (u : Nat) (o : Bool) : (jcl dv a n g vt u o).size = 7 := rfl
theorem rcl_size (g n : Nat) (t : ByteArray) : (rcl g n t).size = 3 := rfl
theorem hcl_one {dv : Value} {a n g : Nat} {vt : Value} {u : Nat} (h1 : dv.oneCell' = true) (h2 : vt.oneCell' = true) : ∀ v ∈ (hcl dv a n g vt u).toList, v.oneCell' = true := by
  intro v hv
  simp [hcl] at hv
  rcases hv with rfl | rfl | rfl | rfl | rfl | rfl <;> first | assumption | rfl
theorem rcl_one {g n : Nat} {t : ByteArray} : ∀ v ∈ (rcl g n t).toList, v.oneCell' = true := by
  intro v hv
  simp [rcl] at hv
  rcases hv with rfl | rfl | rfl <;> rfl
theorem cells_one {v : Value} (h : v.oneCell' = true) : v.cells = #[v] := by
  cases v <;> first | rfl | (simp [Value.oneCell'] at h)
/-! ### box, alloc -/
def bxN (T : TypeId) (v : Value) : Sem Value := Instr.box T v
@[go_sem ↓] theorem execOp_box (ρ : Operand → Value) (dst : Option Tmp) (T : TypeId) (x : Operand) (ty : TypeId) (pos : String) (after : Array Edge) (guard : Option (Nat × Bool)) :
    execOp ρ { dst, op := .box T x, type := ty, pos, after, guard } = (bxN T (ρ x) >>= fun v => pure (.value v)) := rfl
@[go_sem] theorem bxA {P : Program} {T : TypeId} {c : Array Value} {w : World} {l : List Obj} {d : Nat} :
    (bxN T (.agg c)).run P (Wd w l d) = .ok (.pointer (some ⟨w.heap.size + l.length, 0, none⟩)) (Wd w (l ++ [.cells c T (0, 0)]) d) := by
  simp [bxN, Instr.box, newVar, newRow, Value.cells, Wd_size, Wd_alloc]
@[go_sem] theorem bxS {P : Program} {T : TypeId} {s : ByteArray} {w : World} {l : List Obj} {d : Nat} :
    (bxN T (.string s)).run P (Wd w l d) = .ok (.pointer (some ⟨w.heap.size + l.length, 0, none⟩)) (Wd w (l ++ [.cells #[.string s] T (0, 0)]) d) := by
  simp [bxN, Instr.box, newVar, newRow, Value.cells, Wd_size, Wd_alloc]
@[go_sem] theorem bxI {P : Program} {T : TypeId} {k : IntKind} {x : Int} {w : World} {l : List Obj} {d : Nat} :
    (bxN T (.int k x)).run P (Wd w l d) = .ok (.pointer (some ⟨w.heap.size + l.length, 0, none⟩)) (Wd w (l ++ [.cells #[.int k x] T (0, 0)]) d) := by
  simp [bxN, Instr.box, newVar, newRow, Value.cells, Wd_size, Wd_alloc]
theorem run_zeroOf' {P : Program} {T : TypeId} {c : Value} (h : (P.info? T).bind (·.zero) = some c) (W : World) : (zeroValue T).run P W = .ok c W := by
  cases hi : P.info? T with
  | none => simp [hi] at h
  | some i =>
    cases hz : i.zero with
    | none => simp [hi, hz] at h
    | some v =>
      simp [hi, hz] at h
      subst h
      simp [zeroValue, typeInfo, hi, hz]
theorem alXA {P : Program} {T : TypeId} {w : World} {l : List Obj} {d : Nat} {c : Array Value} (h : zeroOf P T = .agg c) :
    alX P T (.agg c) w l d = .ok (.pointer (some ⟨w.heap.size + l.length, 0, none⟩)) (Wd w (l ++ [.cells c T (0, 0)]) d) := by
  simp [alX, alN, Instr.alloc, run_zeroOf h, newVar, newRow, Value.cells, Wd_size, Wd_alloc]
theorem alXS {P : Program} {T : TypeId} {w : World} {l : List Obj} {d : Nat} (h : (P.info? T).bind (·.zero) = some (.slice none 0 0)) :
    alX P T (.slice none 0 0) w l d = .ok (.pointer (some ⟨w.heap.size + l.length, 0, none⟩)) (Wd w (l ++ [.cells #[.slice none 0 0] T (0, 0)]) d) := by
  simp [alX, alN, Instr.alloc, run_zeroOf' h, newVar, newRow, Value.cells, Wd_size, Wd_alloc]

section
variable {P : Program} {T : TypeId} {b : Nat} {W : World} {dv vt : Value} {a n g u : Nat} {o : Bool} {t : ByteArray} {ty : TypeId} {f : Nat × Nat}

theorem ldH0 (ha : (isAgg T).run P W = .ok false W) (h2 : blk W b = some (.cells (hcl dv a n g vt u) ty f)) : ldX P T none (some (.cells (hcl dv a n g vt u) ty f)) b 0 W = .ok (dv) W := ldX_mix1 ha h2 rfl
theorem ldJ0 (ha : (isAgg T).run P W = .ok false W) (h2 : blk W b = some (.cells (jcl dv a n g vt u o) ty f)) : ldX P T none (some (.cells (jcl dv a n g vt u o) ty f)) b 0 W = .ok (dv) W := ldX_mix1 ha h2 rfl
theorem ldH1 (ha : (isAgg T).run P W = .ok false W) (h2 : blk W b = some (.cells (hcl dv a n g vt u) ty f)) : ldX P T none (some (.cells (hcl dv a n g vt u) ty f)) b 1 W = .ok (.int .i64 (a : Int)) W := ldX_mix1 ha h2 rfl
theorem ldJ1 (ha : (isAgg T).run P W = .ok false W) (h2 : blk W b = some (.cells (jcl dv a n g vt u o) ty f)) : ldX P T none (some (.cells (jcl dv a n g vt u o) ty f)) b 1 W = .ok (.int .i64 (a : Int)) W := ldX_mix1 ha h2 rfl
theorem ldH2 (ha : (isAgg T).run P W = .ok false W) (h2 : blk W b = some (.cells (hcl dv a n g vt u) ty f)) : ldX P T none (some (.cells (hcl dv a n g vt u) ty f)) b 2 W = .ok (.int .i64 (n : Int)) W := ldX_mix1 ha h2 rfl
theorem ldJ2 (ha : (isAgg T).run P W = .ok false W) (h2 : blk W b = some (.cells (jcl dv a n g vt u o) ty f)) : ldX P T none (some (.cells (jcl dv a n g vt u o) ty f)) b 2 W = .ok (.int .i64 (n : Int)) W := ldX_mix1 ha h2 rfl
theorem ldH3 (ha : (isAgg T).run P W = .ok false W) (h2 : blk W b = some (.cells (hcl dv a n g vt u) ty f)) : ldX P T none (some (.cells (hcl dv a n g vt u) ty f)) b 3 W = .ok (.int .u64 (g : Int)) W := ldX_mix1 ha h2 rfl
theorem ldJ3 (ha : (isAgg T).run P W = .ok false W) (h2 : blk W b = some (.cells (jcl dv a n g vt u o) ty f)) : ldX P T none (some (.cells (jcl dv a n g vt u o) ty f)) b 3 W = .ok (.int .u64 (g : Int)) W := ldX_mix1 ha h2 rfl
theorem ldH4 (ha : (isAgg T).run P W = .ok false W) (h2 : blk W b = some (.cells (hcl dv a n g vt u) ty f)) : ldX P T none (some (.cells (hcl dv a n g vt u) ty f)) b 4 W = .ok (vt) W := ldX_mix1 ha h2 rfl
theorem ldJ4 (ha : (isAgg T).run P W = .ok false W) (h2 : blk W b = some (.cells (jcl dv a n g vt u o) ty f)) : ldX P T none (some (.cells (jcl dv a n g vt u o) ty f)) b 4 W = .ok (vt) W := ldX_mix1 ha h2 rfl
theorem ldH5 (ha : (isAgg T).run P W = .ok false W) (h2 : blk W b = some (.cells (hcl dv a n g vt u) ty f)) : ldX P T none (some (.cells (hcl dv a n g vt u) ty f)) b 5 W = .ok (.int .i64 (u : Int)) W := ldX_mix1 ha h2 rfl
theorem ldJ5 (ha : (isAgg T).run P W = .ok false W) (h2 : blk W b = some (.cells (jcl dv a n g vt u o) ty f)) : ldX P T none (some (.cells (jcl dv a n g vt u o) ty f)) b 5 W = .ok (.int .i64 (u : Int)) W := ldX_mix1 ha h2 rfl
theorem ldJ6 (ha : (isAgg T).run P W = .ok false W) (h2 : blk W b = some (.cells (jcl dv a n g vt u o) ty f)) : ldX P T none (some (.cells (jcl dv a n g vt u o) ty f)) b 6 W = .ok (.bool o) W := ldX_mix1 ha h2 rfl
theorem ldR0 (ha : (isAgg T).run P W = .ok false W) (h2 : blk W b = some (.cells (rcl g n t) ty f)) : ldX P T none (some (.cells (rcl g n t) ty f)) b 0 W = .ok (.int .u64 (g : Int)) W := ldX_mix1 ha h2 rfl
theorem ldR1 (ha : (isAgg T).run P W = .ok false W) (h2 : blk W b = some (.cells (rcl g n t) ty f)) : ldX P T none (some (.cells (rcl g n t) ty f)) b 1 W = .ok (.int .u64 (n : Int)) W := ldX_mix1 ha h2 rfl
theorem ldR2 (ha : (isAgg T).run P W = .ok false W) (h2 : blk W b = some (.cells (rcl g n t) ty f)) : ldX P T none (some (.cells (rcl g n t) ty f)) b 2 W = .ok (.string t) W := ldX_mix1 ha h2 rfl
theorem ldHA (h1 : aggSize P T = some 6) (h2 : blk W b = some (.cells (hcl dv a n g vt u) ty f)) : ldX P T (some 6) (some (.cells (hcl dv a n g vt u) ty f)) b 0 W = .ok (.agg (hcl dv a n g vt u)) W := by
  rw [ldX_mix h1 h2 (by rw [hcl_size]; omega)]; rfl
theorem ldJA (h1 : aggSize P T = some 6) (h2 : blk W b = some (.cells (jcl dv a n g vt u o) ty f)) : ldX P T (some 6) (some (.cells (jcl dv a n g vt u o) ty f)) b 0 W = .ok (.agg (hcl dv a n g vt u)) W := by
  rw [ldX_mix h1 h2 (by rw [jcl_size]; omega)]; rfl
theorem ldRA (h1 : aggSize P T = some 3) (h2 : blk W b = some (.cells (rcl g n t) ty f)) : ldX P T (some 3) (some (.cells (rcl g n t) ty f)) b 0 W = .ok (.agg (rcl g n t)) W := by
  rw [ldX_mix h1 h2 (by rw [rcl_size]; omega)]; rfl
variable {w : World} {l : List Obj} {d i : Nat} {dv' vt' : Value} {a' n' g' u' : Nat} {o' : Bool} {t' : ByteArray}
theorem stH3 (h1 : (sizeOf T).run P (Wd w l d) = .ok 1 (Wd w l d)) (h2 : l[i]? = some (.cells (hcl dv a n g vt u) ty (0, 0))) :
    stX P T 1 (some (.cells (hcl dv a n g vt u) ty (0, 0))) w l d i 3 (.int .u64 (g' : Int)) = .ok () (Wd w (l.set i (.cells (hcl dv a n g' vt u) ty (0, 0))) d) := by
  rw [stX_mix1 h1 rfl h2 (by rw [hcl_size]; omega)]; rfl
theorem stH3l (h1 : (sizeOf T).run P (Wd w l d) = .ok 1 (Wd w l d)) (h2 : l[i]? = some (.cells (hcl dv a n g vt u) ty (0, 0))) :
    stX P T 1 (some (.cells (hcl dv a n g vt u) ty (0, 0))) w l d i 3 (.int .u64 (no_index (OfNat.ofNat g'))) = .ok () (Wd w (l.set i (.cells (hcl dv a n g' vt u) ty (0, 0))) d) := by
  rw [stX_mix1 h1 rfl h2 (by rw [hcl_size]; omega)]; rfl
theorem stH5 (h1 : (sizeOf T).run P (Wd w l d) = .ok 1 (Wd w l d)) (h2 : l[i]? = some (.cells (hcl dv a n g vt u) ty (0, 0))) :
    stX P T 1 (some (.cells (hcl dv a n g vt u) ty (0, 0))) w l d i 5 (.int .i64 (u' : Int)) = .ok () (Wd w (l.set i (.cells (hcl dv a n g vt u') ty (0, 0))) d) := by
  rw [stX_mix1 h1 rfl h2 (by rw [hcl_size]; omega)]; rfl
theorem stH4 (hv : vt'.oneCell' = true) (h1 : (sizeOf T).run P (Wd w l d) = .ok 1 (Wd w l d)) (h2 : l[i]? = some (.cells (hcl dv a n g vt u) ty (0, 0))) :
    stX P T 1 (some (.cells (hcl dv a n g vt u) ty (0, 0))) w l d i 4 (vt') = .ok () (Wd w (l.set i (.cells (hcl dv a n g vt' u) ty (0, 0))) d) := by
  rw [stX_mix1 h1 hv h2 (by rw [hcl_size]; omega)]; rfl
theorem stJ6 (h1 : (sizeOf T).run P (Wd w l d) = .ok 1 (Wd w l d)) (h2 : l[i]? = some (.cells (jcl dv a n g vt u o) ty (0, 0))) :
    stX P T 1 (some (.cells (jcl dv a n g vt u o) ty (0, 0))) w l d i 6 (.bool o') = .ok () (Wd w (l.set i (.cells (jcl dv a n g vt u o') ty (0, 0))) d) := by
  rw [stX_mix1 h1 rfl h2 (by rw [jcl_size]; omega)]; rfl
theorem stHA (hd : dv'.oneCell' = true) (hv : vt'.oneCell' = true) (h1 : (sizeOf T).run P (Wd w l d) = .ok 6 (Wd w l d)) (h2 : l[i]? = some (.cells (hcl dv a n g vt u) ty (0, 0))) :
    stX P T 6 (some (.cells (hcl dv a n g vt u) ty (0, 0))) w l d i 0 (.agg (hcl dv' a' n' g' vt' u')) = .ok () (Wd w (l.set i (.cells (hcl dv' a' n' g' vt' u') ty (0, 0))) d) := by
  rw [stX_mix h1 h2 rfl (by rw [hcl_size]; omega) (hcl_one hd hv)]; rfl
theorem stJA (hd : dv'.oneCell' = true) (hv : vt'.oneCell' = true) (h1 : (sizeOf T).run P (Wd w l d) = .ok 6 (Wd w l d)) (h2 : l[i]? = some (.cells (jcl dv a n g vt u o) ty (0, 0))) :
    stX P T 6 (some (.cells (jcl dv a n g vt u o) ty (0, 0))) w l d i 0 (.agg (hcl dv' a' n' g' vt' u')) = .ok () (Wd w (l.set i (.cells (jcl dv' a' n' g' vt' u' o) ty (0, 0))) d) := by
  rw [stX_mix h1 h2 rfl (by rw [jcl_size]; omega) (hcl_one hd hv)]; rfl
theorem stRA (h1 : (sizeOf T).run P (Wd w l d) = .ok 3 (Wd w l d)) (h2 : l[i]? = some (.cells (rcl g n t) ty (0, 0))) :
    stX P T 3 (some (.cells (rcl g n t) ty (0, 0))) w l d i 0 (.agg (rcl g' n' t')) = .ok () (Wd w (l.set i (.cells (rcl g' n' t') ty (0, 0))) d) := by
  rw [stX_mix h1 h2 rfl (by rw [rcl_size]; omega) rcl_one]; rfl
/-- A cell alone, that holds a slice. -/
theorem stO {v v' : Value} (hv : v'.oneCell' = true) (h1 : (sizeOf T).run P (Wd w l d) = .ok 1 (Wd w l d)) (h2 : l[i]? = some (.cells #[v] ty (0, 0))) :
    stX P T 1 (some (.cells #[v] ty (0, 0))) w l d i 0 v' = .ok () (Wd w (l.set i (.cells #[v'] ty (0, 0))) d) := by
  rw [stX_mix1 h1 hv h2 (by simp)]; rfl
end
/-! ### literal slices -/
section
variable {P : Program} {T E : TypeId} {z : Value} (hT : P.underlying T = some (.slice E)) (hs : ∀ W, (sizeOf E).run P W = .ok 1 W) (hz : (P.info? E).bind (·.zero) = some z) (hzc : z.cells = #[z]) (w : World) (l : List Obj) (d : Nat)
include hT hs hz hzc
theorem bsV1 {v : Value} (hv : v.oneCell' = true) : (Go.Proofs.YtlogjpmdfimgdaaGreatDoor.Jf.bsN T 1 #[(0, v)]).run P (Wd w l d) = .ok (.slice (some ⟨w.heap.size + l.length, 0, none⟩) 1 1) (Wd w (l ++ [.cells #[v] E (0, 0)]) d) := by
  have hc := cells_one hv
  have hr : Array.range 1 = #[0] := by
    apply Array.ext'; rw [Array.toList_range]; rfl
  unfold Go.Proofs.YtlogjpmdfimgdaaGreatDoor.Jf.bsN Instr.buildSlice
  simp [run_underlying hT, hs, hr, run_zeroOf' hz, hzc, hc, Instr.fill, newRow, Wd_size, Wd_alloc]
theorem bsV2 {v v2 : Value} (hv : v.oneCell' = true) (hv2 : v2.oneCell' = true) : (Go.Proofs.YtlogjpmdfimgdaaGreatDoor.Jf.bsN T 2 #[(0, v), (1, v2)]).run P (Wd w l d) = .ok (.slice (some ⟨w.heap.size + l.length, 0, none⟩) 2 2) (Wd w (l ++ [.cells #[v, v2] E (0, 0)]) d) := by
  have hc := cells_one hv
  have hc2 := cells_one hv2
  have hr : Array.range 2 = #[0, 1] := by
    apply Array.ext'; rw [Array.toList_range]; rfl
  unfold Go.Proofs.YtlogjpmdfimgdaaGreatDoor.Jf.bsN Instr.buildSlice
  simp [run_underlying hT, hs, hr, run_zeroOf' hz, hzc, hc, hc2, Instr.fill, newRow, Wd_size, Wd_alloc]
theorem bsV3 {v v2 v3 : Value} (hv : v.oneCell' = true) (hv2 : v2.oneCell' = true) (hv3 : v3.oneCell' = true) : (Go.Proofs.YtlogjpmdfimgdaaGreatDoor.Jf.bsN T 3 #[(0, v), (1, v2), (2, v3)]).run P (Wd w l d) = .ok (.slice (some ⟨w.heap.size + l.length, 0, none⟩) 3 3) (Wd w (l ++ [.cells #[v, v2, v3] E (0, 0)]) d) := by
  have hc := cells_one hv
  have hc2 := cells_one hv2
  have hc3 := cells_one hv3
  have hr : Array.range 3 = #[0, 1, 2] := by
    apply Array.ext'; rw [Array.toList_range]; rfl
  unfold Go.Proofs.YtlogjpmdfimgdaaGreatDoor.Jf.bsN Instr.buildSlice
  simp [run_underlying hT, hs, hr, run_zeroOf' hz, hzc, hc, hc2, hc3, Instr.fill, newRow, Wd_size, Wd_alloc]
end
end Go.Own.Jf
namespace Go.Proofs.YtlogjpmdfimgdaaGreatDoor.Jf
open Go.RowKit Go.Own.Jf
theorem agj9 : aggSize Tryz.prog 9 = none := by kernel_rfl
theorem csj9 : Tryz.prog.cellsOf 9 = 1 := by kernel_rfl
theorem szj9 (w : World) : (sizeOf 9).run Tryz.prog w = .ok 1 w := by kernel_rfl
theorem isaj9 (w : World) : (isAgg 9).run Tryz.prog w = .ok false w := by kernel_rfl
theorem agj25 : aggSize Tryz.prog 25 = none := by kernel_rfl
theorem csj25 : Tryz.prog.cellsOf 25 = 1 := by kernel_rfl
theorem szj25 (w : World) : (sizeOf 25).run Tryz.prog w = .ok 1 w := by kernel_rfl
theorem isaj25 (w : World) : (isAgg 25).run Tryz.prog w = .ok false w := by kernel_rfl
theorem agj29 : aggSize Tryz.prog 73 = none := by kernel_rfl
theorem csj29 : Tryz.prog.cellsOf 73 = 1 := by kernel_rfl
theorem szj29 (w : World) : (sizeOf 73).run Tryz.prog w = .ok 1 w := by kernel_rfl
theorem isaj29 (w : World) : (isAgg 73).run Tryz.prog w = .ok false w := by kernel_rfl
theorem agj32 : aggSize Tryz.prog 29 = none := by kernel_rfl
theorem csj32 : Tryz.prog.cellsOf 29 = 1 := by kernel_rfl
theorem szj32 (w : World) : (sizeOf 29).run Tryz.prog w = .ok 1 w := by kernel_rfl
theorem isaj32 (w : World) : (isAgg 29).run Tryz.prog w = .ok false w := by kernel_rfl
theorem agj38 : aggSize Tryz.prog 39 = none := by kernel_rfl
theorem csj38 : Tryz.prog.cellsOf 39 = 1 := by kernel_rfl
theorem szj38 (w : World) : (sizeOf 39).run Tryz.prog w = .ok 1 w := by kernel_rfl
theorem isaj38 (w : World) : (isAgg 39).run Tryz.prog w = .ok false w := by kernel_rfl
theorem agj54 : aggSize Tryz.prog 140 = none := by kernel_rfl
theorem csj54 : Tryz.prog.cellsOf 140 = 1 := by kernel_rfl
theorem szj54 (w : World) : (sizeOf 140).run Tryz.prog w = .ok 1 w := by kernel_rfl
theorem isaj54 (w : World) : (isAgg 140).run Tryz.prog w = .ok false w := by kernel_rfl
theorem agj78 : aggSize Tryz.prog 129 = none := by kernel_rfl
theorem csj78 : Tryz.prog.cellsOf 129 = 1 := by kernel_rfl
theorem szj78 (w : World) : (sizeOf 129).run Tryz.prog w = .ok 1 w := by kernel_rfl
theorem isaj78 (w : World) : (isAgg 129).run Tryz.prog w = .ok false w := by kernel_rfl
theorem agj80 : aggSize Tryz.prog 131 = none := by kernel_rfl
theorem csj80 : Tryz.prog.cellsOf 131 = 1 := by kernel_rfl
theorem szj80 (w : World) : (sizeOf 131).run Tryz.prog w = .ok 1 w := by kernel_rfl
theorem isaj80 (w : World) : (isAgg 131).run Tryz.prog w = .ok false w := by kernel_rfl
theorem agj84 : aggSize Tryz.prog 160 = none := by kernel_rfl
theorem csj84 : Tryz.prog.cellsOf 160 = 1 := by kernel_rfl
theorem szj84 (w : World) : (sizeOf 160).run Tryz.prog w = .ok 1 w := by kernel_rfl
theorem isaj84 (w : World) : (isAgg 160).run Tryz.prog w = .ok false w := by kernel_rfl
theorem agj110 : aggSize Tryz.prog 209 = none := by kernel_rfl
theorem csj110 : Tryz.prog.cellsOf 209 = 1 := by kernel_rfl
theorem szj110 (w : World) : (sizeOf 209).run Tryz.prog w = .ok 1 w := by kernel_rfl
theorem isaj110 (w : World) : (isAgg 209).run Tryz.prog w = .ok false w := by kernel_rfl
theorem agj61 : aggSize Tryz.prog 107 = some 6 := by kernel_rfl
theorem csj61 : Tryz.prog.cellsOf 107 = 6 := by kernel_rfl
theorem szj61 (w : World) : (sizeOf 107).run Tryz.prog w = .ok 6 w := by kernel_rfl
theorem agj64 : aggSize Tryz.prog 110 = some 7 := by kernel_rfl
theorem csj64 : Tryz.prog.cellsOf 110 = 7 := by kernel_rfl
theorem szj64 (w : World) : (sizeOf 110).run Tryz.prog w = .ok 7 w := by kernel_rfl
theorem agj88 : aggSize Tryz.prog 145 = some 3 := by kernel_rfl
theorem csj88 : Tryz.prog.cellsOf 145 = 3 := by kernel_rfl
theorem szj88 (w : World) : (sizeOf 145).run Tryz.prog w = .ok 3 w := by kernel_rfl
theorem agj100 : aggSize Tryz.prog 177 = some 2 := by kernel_rfl
theorem csj100 : Tryz.prog.cellsOf 177 = 2 := by kernel_rfl
theorem szj100 (w : World) : (sizeOf 177).run Tryz.prog w = .ok 2 w := by kernel_rfl
theorem zj61 : zeroOf Tryz.prog 107 = .agg (hcl (.pointer none) 0 0 0 (.slice none 0 0) 0) := by kernel_rfl
theorem zj64 : zeroOf Tryz.prog 110 = .agg (jcl (.pointer none) 0 0 0 (.slice none 0 0) 0 false) := by kernel_rfl
theorem zj88 : zeroOf Tryz.prog 145 = .agg (rcl 0 0 .empty) := by kernel_rfl
theorem zj100 : zeroOf Tryz.prog 177 = .agg #[.pointer none, .slice none 0 0] := by kernel_rfl
theorem zj78 : zeroOf Tryz.prog 129 = .slice none 0 0 := by kernel_rfl
theorem alj78 {w : World} {l : List Obj} {d : Nat} : alX Tryz.prog 129 (.slice none 0 0) w l d = .ok (.pointer (some ⟨w.heap.size + l.length, 0, none⟩)) (Wd w (l ++ [.cells #[.slice none 0 0] 129 (0, 0)]) d) := alXS (by kernel_rfl)
theorem buj61 (p : Option Addr) (a n : Nat) (W : World) : (buN 107 #[(0, .pointer p), (1, .int .i64 (a : Int)), (2, .int .i64 (n : Int))]).run Tryz.prog W = .ok (.agg (hcl (.pointer p) a n 0 (.slice none 0 0) 0)) W := by kernel_rfl
theorem buj61b (p : Option Addr) (n : Nat) (W : World) : (buN 107 #[(0, .pointer p), (2, .int .i64 (n : Int))]).run Tryz.prog W = .ok (.agg (hcl (.pointer p) 0 n 0 (.slice none 0 0) 0)) W := by kernel_rfl
theorem buj64 (p q : Option Addr) (a n g x c u : Nat) (W : World) : (buN 110 #[(0, .agg (hcl (.pointer p) a n g (.slice q x c) u))]).run Tryz.prog W = .ok (.agg (jcl (.pointer p) a n g (.slice q x c) u false)) W := by kernel_rfl
theorem buj88 (g n : Nat) (t : ByteArray) (W : World) : (buN 145 #[(0, .int .u64 (g : Int)), (1, .int .u64 (n : Int)), (2, .string t)]).run Tryz.prog W = .ok (.agg (rcl g n t)) W := by kernel_rfl
theorem buj88z (W : World) : (buN 145 #[]).run Tryz.prog W = .ok (.agg (rcl 0 0 .empty)) W := by kernel_rfl
theorem bsj32 {v : Value} (hv : v.oneCell' = true) (w : World) (l : List Obj) (d : Nat) : (bsN 29 1 #[(0, v)]).run Tryz.prog (Wd w l d) = .ok (.slice (some ⟨w.heap.size + l.length, 0, none⟩) 1 1) (Wd w (l ++ [.cells #[v] 9 (0, 0)]) d) := bsV1 Tryz.underlying29 szj9 (z := .string .empty) (by kernel_rfl) rfl w l d hv
theorem bsj78 {v : Value} (hv : v.oneCell' = true) (w : World) (l : List Obj) (d : Nat) : (bsN 129 1 #[(0, v)]).run Tryz.prog (Wd w l d) = .ok (.slice (some ⟨w.heap.size + l.length, 0, none⟩) 1 1) (Wd w (l ++ [.cells #[v] 131 (0, 0)]) d) := bsV1 Tryz.underlying129 szj80 (z := .nilFunc) (by kernel_rfl) rfl w l d hv
theorem bsj782 {v v2 : Value} (hv : v.oneCell' = true) (hv2 : v2.oneCell' = true) (w : World) (l : List Obj) (d : Nat) : (bsN 129 2 #[(0, v), (1, v2)]).run Tryz.prog (Wd w l d) = .ok (.slice (some ⟨w.heap.size + l.length, 0, none⟩) 2 2) (Wd w (l ++ [.cells #[v, v2] 131 (0, 0)]) d) := bsV2 Tryz.underlying129 szj80 (z := .nilFunc) (by kernel_rfl) rfl w l d hv hv2
theorem bsj84 {v : Value} (hv : v.oneCell' = true) (w : World) (l : List Obj) (d : Nat) : (bsN 160 1 #[(0, v)]).run Tryz.prog (Wd w l d) = .ok (.slice (some ⟨w.heap.size + l.length, 0, none⟩) 1 1) (Wd w (l ++ [.cells #[v] 129 (0, 0)]) d) := bsV1 Tryz.underlying160 szj78 (z := .slice none 0 0) (by kernel_rfl) rfl w l d hv
theorem bsj842 {v v2 : Value} (hv : v.oneCell' = true) (hv2 : v2.oneCell' = true) (w : World) (l : List Obj) (d : Nat) : (bsN 160 2 #[(0, v), (1, v2)]).run Tryz.prog (Wd w l d) = .ok (.slice (some ⟨w.heap.size + l.length, 0, none⟩) 2 2) (Wd w (l ++ [.cells #[v, v2] 129 (0, 0)]) d) := bsV2 Tryz.underlying160 szj78 (z := .slice none 0 0) (by kernel_rfl) rfl w l d hv hv2
theorem bsj843 {v v2 v3 : Value} (hv : v.oneCell' = true) (hv2 : v2.oneCell' = true) (hv3 : v3.oneCell' = true) (w : World) (l : List Obj) (d : Nat) : (bsN 160 3 #[(0, v), (1, v2), (2, v3)]).run Tryz.prog (Wd w l d) = .ok (.slice (some ⟨w.heap.size + l.length, 0, none⟩) 3 3) (Wd w (l ++ [.cells #[v, v2, v3] 129 (0, 0)]) d) := bsV3 Tryz.underlying160 szj78 (z := .slice none 0 0) (by kernel_rfl) rfl w l d hv hv2 hv3
theorem rowT_of {P : Program} {T E : TypeId} {sz : Nat} (hT : P.underlying T = some (.slice E)) (h : (P.info? E).map (fun i => (i.zero.map fun z => z.cells.size, i.size, decide (i.bytes ≤ 1048576))) = some (some sz, sz, true)) : RowT P T E sz := ⟨hT, by
  cases hi : P.info? E with
  | none => rw [hi] at h; cases h
  | some i =>
    rw [hi] at h
    cases hz : i.zero with
    | none => simp [hz] at h
    | some z =>
      simp [hz] at h
      exact ⟨i, z, rfl, hz, h.2.1, h.1, h.2.2⟩⟩
theorem rt32 : RowT Tryz.prog 29 9 1 := rowT_of Tryz.underlying29 (by kernel_rfl)
theorem rt78 : RowT Tryz.prog 129 131 1 := rowT_of Tryz.underlying129 (by kernel_rfl)
theorem rt84 : RowT Tryz.prog 160 129 1 := rowT_of Tryz.underlying160 (by kernel_rfl)
theorem mk0 (a : Nat) : (mkS [a]) = ⟨#[UInt8.ofNat a]⟩ := rfl
end Go.Proofs.YtlogjpmdfimgdaaGreatDoor.Jf

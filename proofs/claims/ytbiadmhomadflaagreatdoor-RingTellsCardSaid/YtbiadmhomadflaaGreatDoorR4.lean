/- For the document's own digest: the types' facts, small laws, its loops as code. | The loops of the document's digest, each on its own: whatever stands in the other slots. | The loops of the document's digest, each on its own: whatever stands in the other slots. | The loops of the document's digest, each on its own: whatever stands in the other slots. | The loops of the document's digest, each on its own: whatever stands in the other slots. | The loops of the document's digest, each on its own: whatever stands in the other slots. | The document's own digest: it gives what the program's is. -/
import Derived.Test.YtbiadmhomadflaaGreatDoorR1
import Derived.Test.YtbiadmhomadflaaGreatDoorReg2
import Derived.Laws.Concat
import Derived.Test.YtbiadmhomadflaaGreatDoorReg3
namespace Go.Proofs.YtbiadmhomadflaaGreatDoor.Sm
open Go.RowKit Go.Own

theorem ag78 : aggSize Tryz.prog 78 = some 8 := by kernel_rfl
theorem cs78 : Tryz.prog.cellsOf 78 = 8 := by kernel_rfl
theorem sz78 (w : World) : (sizeOf 78).run Tryz.prog w = .ok 8 w := by kernel_rfl
theorem z78 : zeroOf Tryz.prog 78 = .agg (cv .u32 (rep 8)) := by kernel_rfl
theorem bu78 (a b c d e f g h : Nat) (W : World) : (buN 78 #[(0, .int .u32 a), (1, .int .u32 b), (2, .int .u32 c), (3, .int .u32 d), (4, .int .u32 e), (5, .int .u32 f), (6, .int .u32 g), (7, .int .u32 h)]).run Tryz.prog W = .ok (.agg (cv .u32 [a, b, c, d, e, f, g, h])) W := by kernel_rfl
theorem bu78s (W : World) : (buN 78 #[(0, .int .u32 1779033703), (1, .int .u32 3144134277), (2, .int .u32 1013904242), (3, .int .u32 2773480762), (4, .int .u32 1359893119), (5, .int .u32 2600822924), (6, .int .u32 528734635), (7, .int .u32 1541459225)]).run Tryz.prog W = .ok (.agg (cv .u32 startL)) W := by kernel_rfl
theorem br56 : ByteRow Tryz.prog 56 5 := by
  have h : (Tryz.prog.info? 5).map (fun i => (i.zero, i.size, i.bytes)) = some (some (.int .u8 0), 1, 1) := by kernel_rfl
  refine ⟨Tryz.underlying56, ?_⟩
  cases hi : Tryz.prog.info? 5 with
  | none => rw [hi] at h; cases h
  | some i =>
    rw [hi] at h
    simp at h
    exact ⟨i, rfl, h.1, h.2.1, h.2.2⟩
theorem bs128 (w : World) (l : List Obj) (d : Nat) : (bsN 56 1 #[(0, .int .u8 128)]).run Tryz.prog (Wd w l d) =
    .ok (.slice (some ⟨w.heap.size + l.length, 0, none⟩) 1 1) (Wd w (l ++ [.cells (cv .u8 [128]) 5 (0, 0)]) d) := bs1 128 w l d
theorem bs0 (w : World) (l : List Obj) (d : Nat) : (bsN 56 1 #[(0, .int .u8 0)]).run Tryz.prog (Wd w l d) =
    .ok (.slice (some ⟨w.heap.size + l.length, 0, none⟩) 1 1) (Wd w (l ++ [.cells (cv .u8 [0]) 5 (0, 0)]) d) := bs1 0 w l d
theorem end_at1 (L : List Obj) (X : Obj) : (L ++ [X])[L.length]? = some X := List.getElem?_concat_length
theorem rep_succ (j : Nat) : rep j ++ [0] = rep (j + 1) := by
  unfold rep
  rw [List.replicate_succ']
theorem shr_i64 (a n : Nat) (yk : IntKind) (h : n ≤ 64) : Op.shift .shr .i64 (a : Int) yk (n : Int) = pure (.int .i64 ((shr64 a n : Nat) : Int)) := by
  rw [shift_shr _ _ _ _ (by omega) (by simp [IntKind.bits]; omega)]
  simp [shr64]
theorem cnt_succ (n k : Nat) : (List.range k).map (cntF n) ++ [cntF n k] = (List.range (k + 1)).map (cntF n) := by simp [List.range_succ]
theorem sh_17 (x : Nat) : shiftedF x 17 19 10 = xor32 (xor32 (rotI x 17) (rotI x 19)) (shr32 x 10) := rfl
theorem sh_7 (x : Nat) : shiftedF x 7 18 3 = xor32 (xor32 (rotI x 7) (rotI x 18)) (shr32 x 3) := rfl
theorem mkS_append (a b : List Nat) : mkS a ++ mkS b = mkS (a ++ b) := by
  apply ByteArray.ext
  simp [mkS, ByteArray.data_append]
theorem mkS_add {P : Program} {W : World} (a b : List Nat) (h : a.length + b.length ≤ 1099511627776) : (Op.stringOp .add (mkS a) (mkS b)).run P W = .ok (.string (mkS (a ++ b))) W := by
  rw [run_string_add_sum W _ _ (by rw [mkS_size, mkS_size]; omega), mkS_append]
/-- The b-th block of 64 bytes. -/
def blkB (S : List Nat) (b : Nat) : List Nat := (S.drop (64 * b)).take 64
theorem blkB_gi (S : List Nat) (b j : Nat) (hj : j < 64) : gi (blkB S b) j = gi S (64 * b + j) := by
  simp [gi, blkB, List.getD, hj, List.getElem?_drop]
theorem gi_take' {S s : List Nat} {n j : Nat} (h : S.take n = s) (hj : j < n) : gi S j = gi s j := by
  rw [← h]; simp [gi, List.getD, hj]
/-- The bytes told so far. -/
def outS (st : List Nat) (k : Nat) : List Nat := (List.range k).flatMap (wordF st)
theorem outS_length (st : List Nat) (k : Nat) : (outS st k).length = 4 * k := flat_length (c := 4) (fun _ => rfl) k
theorem outS_succ (st : List Nat) (k : Nat) : outS st k ++ wordF st k = outS st (k + 1) := by simp [outS, List.range_succ]
theorem bif32 (a : Nat) : bits .xor .u32 (if IntKind.u32.signed = true then -1 else IntKind.u32.max) (a : Int) = ((not32 a : Nat) : Int) := bm32 a
/-- All loops of a code, the outer ones first. -/
def loopsOf : Code → List Code
  | .loop c => .loop c :: loopsOf c
  | .seq a b => loopsOf a ++ loopsOf b
  | .block _ c => loopsOf c
  | .scope c => loopsOf c
  | .cond _ a b => loopsOf a ++ loopsOf b
  | _ => []
/-- The k-th loop of the document's digest. -/
noncomputable def ref12 (k : Nat) : Code := (((Tryz.f43.body.map loopsOf).getD [])[k]?).getD .skip
end Go.Proofs.YtbiadmhomadflaaGreatDoor.Sm
namespace Go.Proofs.YtbiadmhomadflaaGreatDoor.Sm
open Go.RowKit Go.Own
attribute [local go_sem] ag120 ag122 ag76 ag75 ag5 ag3 cs120 cs122 cs76 cs75 cs5 cs3 sz120 sz122 sz76 sz75 sz5 sz3 isa75 isa5 isa3 z120 z76 ag78 cs78 sz78 z78 bu78 bu78s bs4 bs128 bs0 bs1
attribute [local go_sem ↓] shr_i64
attribute [-go_sem] run_string_add_if
set_option maxRecDepth 1000000 in
set_option maxHeartbeats 4000000 in
theorem adds_loop (W : World) (h v : List Nat) (g : List Obj) (i pv d : Nat) (hcl : h.length = 8) (hvl8 : v.length = 8) (hpv : pv = W.heap.size + (i + 1)) (hg : g[i]? = some (.cells (cv .u32 v) 78 (0, 0)))
    (c0 c1 c2 c3 c4 c5 c6 c8 c9 c10 c12 c13 c14 c16 c17 c18 c19 c20 c21 c22 c23 c24 c25 c26 c27 c28 c29 c30 c31 c32 c33 c34 c35 c36 c37 c38 c39 c40 c41 c42 c43 c44 c45 c46 c47 c48 c49 c50 c51 c52 c53 c54 c55 c56 c57 c58 c59 c60 c61 c62 c63 c64 c65 c66 c67 c68 c69 c70 c71 c72 c73 c74 c75 c76 c77 c78 c79 c80 c81 c82 c83 c84 c85 c86 c87 c88 c89 c90 c91 c92 c93 c94 c95 c96 c97 c98 c99 c100 c101 c102 c103 c104 c105 c106 c107 c108 c109 c110 c111 c112 c113 c114 c115 c116 c117 c118 c119 c120 c121 c122 c123 c124 c125 c126 c127 c128 c129 c130 c131 c132 c133 c134 c135 c136 c137 c138 c139 c140 c141 c142 c143 c144 c145 c146 c147 c148 c149 c150 c151 c152 c153 c154 c155 c156 c157 c158 c159 c160 c161 c162 c163 c164 c165 c166 c167 c168 c169 c170 c171 c172 c173 c174 c175 c176 c177 c178 c179 c180 c181 c182 c183 c184 c185 c186 c187 c188 c189 c190 c191 c192 c193 c194 c195 c196 c197 c198 c199 c200 c201 c202 c203 c204 c205 c206 c207 c208 c209 c210 c211 c212 c213 c214 c215 c216 c217 c218 c219 c220 c221 c222 c223 c224 c225 c226 c227 c228 c229 c230 c231 c232 c233 c234 c235 c236 c237 c238 c239 c240 c241 c242 c243 c244 c245 c246 c247 c248 c249 c250 c251 c252 c253 c254 c255 c256 c257 c258 c259 c260 c261 c262 c263 c264 c265 c266 c267 c268 c269 c270 c271 c272 c273 c274 c275 c276 c277 c278 c279 : Value) (Q0 : Exit → Act → World → Prop)
    (hexit : ∀ (u15 u239 u240 u241 u242 u243 u244 u245 u246 u247 u248 u249 u250 u251 : Value) (d : Nat), Q0 (.exit 10) ⟨List.toArray (c0 :: c1 :: c2 :: c3 :: c4 :: c5 :: c6 :: .pointer (some ⟨W.heap.size, 0, none⟩) :: c8 :: c9 :: c10 :: .pointer (some ⟨pv, 0, none⟩) :: c12 :: c13 :: c14 :: u15 :: c16 :: c17 :: c18 :: c19 :: c20 :: c21 :: c22 :: c23 :: c24 :: c25 :: c26 :: c27 :: c28 :: c29 :: c30 :: c31 :: c32 :: c33 :: c34 :: c35 :: c36 :: c37 :: c38 :: c39 :: c40 :: c41 :: c42 :: c43 :: c44 :: c45 :: c46 :: c47 :: c48 :: c49 :: c50 :: c51 :: c52 :: c53 :: c54 :: c55 :: c56 :: c57 :: c58 :: c59 :: c60 :: c61 :: c62 :: c63 :: c64 :: c65 :: c66 :: c67 :: c68 :: c69 :: c70 :: c71 :: c72 :: c73 :: c74 :: c75 :: c76 :: c77 :: c78 :: c79 :: c80 :: c81 :: c82 :: c83 :: c84 :: c85 :: c86 :: c87 :: c88 :: c89 :: c90 :: c91 :: c92 :: c93 :: c94 :: c95 :: c96 :: c97 :: c98 :: c99 :: c100 :: c101 :: c102 :: c103 :: c104 :: c105 :: c106 :: c107 :: c108 :: c109 :: c110 :: c111 :: c112 :: c113 :: c114 :: c115 :: c116 :: c117 :: c118 :: c119 :: c120 :: c121 :: c122 :: c123 :: c124 :: c125 :: c126 :: c127 :: c128 :: c129 :: c130 :: c131 :: c132 :: c133 :: c134 :: c135 :: c136 :: c137 :: c138 :: c139 :: c140 :: c141 :: c142 :: c143 :: c144 :: c145 :: c146 :: c147 :: c148 :: c149 :: c150 :: c151 :: c152 :: c153 :: c154 :: c155 :: c156 :: c157 :: c158 :: c159 :: c160 :: c161 :: c162 :: c163 :: c164 :: c165 :: c166 :: c167 :: c168 :: c169 :: c170 :: c171 :: c172 :: c173 :: c174 :: c175 :: c176 :: c177 :: c178 :: c179 :: c180 :: c181 :: c182 :: c183 :: c184 :: c185 :: c186 :: c187 :: c188 :: c189 :: c190 :: c191 :: c192 :: c193 :: c194 :: c195 :: c196 :: c197 :: c198 :: c199 :: c200 :: c201 :: c202 :: c203 :: c204 :: c205 :: c206 :: c207 :: c208 :: c209 :: c210 :: c211 :: c212 :: c213 :: c214 :: c215 :: c216 :: c217 :: c218 :: c219 :: c220 :: c221 :: c222 :: c223 :: c224 :: c225 :: c226 :: c227 :: c228 :: c229 :: c230 :: c231 :: c232 :: c233 :: c234 :: c235 :: c236 :: c237 :: c238 :: u239 :: u240 :: u241 :: u242 :: u243 :: u244 :: u245 :: u246 :: u247 :: u248 :: u249 :: u250 :: u251 :: c252 :: c253 :: c254 :: c255 :: c256 :: c257 :: c258 :: c259 :: c260 :: c261 :: c262 :: c263 :: c264 :: c265 :: c266 :: c267 :: c268 :: c269 :: c270 :: c271 :: c272 :: c273 :: c274 :: c275 :: c276 :: c277 :: c278 :: c279 :: []), []⟩ (Wd W (.cells (cv .u32 (plusL h v)) 78 (0, 0) :: g) d)) :
    (ref12 5).wp Tryz.prog Q0 ⟨List.toArray (c0 :: c1 :: c2 :: c3 :: c4 :: c5 :: c6 :: .pointer (some ⟨W.heap.size, 0, none⟩) :: c8 :: c9 :: c10 :: .pointer (some ⟨pv, 0, none⟩) :: c12 :: c13 :: c14 :: .int .i64 0 :: c16 :: c17 :: c18 :: c19 :: c20 :: c21 :: c22 :: c23 :: c24 :: c25 :: c26 :: c27 :: c28 :: c29 :: c30 :: c31 :: c32 :: c33 :: c34 :: c35 :: c36 :: c37 :: c38 :: c39 :: c40 :: c41 :: c42 :: c43 :: c44 :: c45 :: c46 :: c47 :: c48 :: c49 :: c50 :: c51 :: c52 :: c53 :: c54 :: c55 :: c56 :: c57 :: c58 :: c59 :: c60 :: c61 :: c62 :: c63 :: c64 :: c65 :: c66 :: c67 :: c68 :: c69 :: c70 :: c71 :: c72 :: c73 :: c74 :: c75 :: c76 :: c77 :: c78 :: c79 :: c80 :: c81 :: c82 :: c83 :: c84 :: c85 :: c86 :: c87 :: c88 :: c89 :: c90 :: c91 :: c92 :: c93 :: c94 :: c95 :: c96 :: c97 :: c98 :: c99 :: c100 :: c101 :: c102 :: c103 :: c104 :: c105 :: c106 :: c107 :: c108 :: c109 :: c110 :: c111 :: c112 :: c113 :: c114 :: c115 :: c116 :: c117 :: c118 :: c119 :: c120 :: c121 :: c122 :: c123 :: c124 :: c125 :: c126 :: c127 :: c128 :: c129 :: c130 :: c131 :: c132 :: c133 :: c134 :: c135 :: c136 :: c137 :: c138 :: c139 :: c140 :: c141 :: c142 :: c143 :: c144 :: c145 :: c146 :: c147 :: c148 :: c149 :: c150 :: c151 :: c152 :: c153 :: c154 :: c155 :: c156 :: c157 :: c158 :: c159 :: c160 :: c161 :: c162 :: c163 :: c164 :: c165 :: c166 :: c167 :: c168 :: c169 :: c170 :: c171 :: c172 :: c173 :: c174 :: c175 :: c176 :: c177 :: c178 :: c179 :: c180 :: c181 :: c182 :: c183 :: c184 :: c185 :: c186 :: c187 :: c188 :: c189 :: c190 :: c191 :: c192 :: c193 :: c194 :: c195 :: c196 :: c197 :: c198 :: c199 :: c200 :: c201 :: c202 :: c203 :: c204 :: c205 :: c206 :: c207 :: c208 :: c209 :: c210 :: c211 :: c212 :: c213 :: c214 :: c215 :: c216 :: c217 :: c218 :: c219 :: c220 :: c221 :: c222 :: c223 :: c224 :: c225 :: c226 :: c227 :: c228 :: c229 :: c230 :: c231 :: c232 :: c233 :: c234 :: c235 :: c236 :: c237 :: c238 :: c239 :: c240 :: c241 :: c242 :: c243 :: c244 :: c245 :: c246 :: c247 :: c248 :: c249 :: c250 :: c251 :: c252 :: c253 :: c254 :: c255 :: c256 :: c257 :: c258 :: c259 :: c260 :: c261 :: c262 :: c263 :: c264 :: c265 :: c266 :: c267 :: c268 :: c269 :: c270 :: c271 :: c272 :: c273 :: c274 :: c275 :: c276 :: c277 :: c278 :: c279 :: []), []⟩ (Wd W (.cells (cv .u32 h) 78 (0, 0) :: g) d) := by
  conv => arg 2; whnf
  have hG := Lib.hid hg
  have hSV : ∀ (F : List Nat) (d : Nat), blk (Wd W (.cells (cv .u32 F) 78 (0, 0) :: g) d) pv = some (.cells (cv .u32 v) 78 (0, 0)) := fun F d => by
    rw [hpv, blk_at, List.getElem?_cons_succ]; exact hG.out
  clear hg hpv
  go_loopw [15] (fun i wr => ∃ (q d : Nat), q ≤ 8 ∧ i = .int .i64 q ∧ wr = Wd W (.cells (cv .u32 (fin1 (plusF h v) q h)) 78 (0, 0) :: g) d) (fun i _ => 8 - (intOf i).toNat)
  case atStart => exact ⟨0, _, by omega, rfl, by rw [fin1_zero]⟩
  case round =>
    obtain ⟨q, d, hq, rfl, rfl⟩ := hrel
    have hfl : (fin1 (plusF h v) q h).length = 8 := by rw [fin1_length (by omega), hcl]
    by_cases hq8 : q < 8
    · have hqi : (q : Int) < 8 := by omega
      have hst : Hid (spl (fin1 (plusF h v) q h) q [add32 (gi (fin1 (plusF h v) q h) q) (gi v q)] = fin1 (plusF h v) (q + 1) h) := Lib.hid (by
        rw [fin1_gi (Nat.le_refl q), show add32 (gi h q) (gi v q) = plusF h v q from rfl, fin1_step])
      generalize fin1 (plusF h v) q h = F at *
      go_wp2
      refine wp_region_drew 9 (by kernel_rfl) (by kernel_rfl) ?_
      simp only [List.take_succ_cons, List.take_zero, List.drop_succ_cons, List.drop_zero]
      repeat (go_big_quiet_step (fail))
      refine wpQuiet_nil ?_
      intro eR
      go_wp2
      go_roundw
      case rel => exact ⟨q + 1, _, by omega, by go_num, by rw [hst.out]⟩
      case measure => simp [intOf]; omega
    · obtain rfl : q = 8 := by omega
      have HF : Hid (fin1 (plusF h v) 8 h = plusL h v) := Lib.hid (by rw [fin1_end (by omega)]; rfl)
      clear hq8 hfl
      rw [HF.out]
      go_wp2
      exact hexit _ _ _ _ _ _ _ _ _ _ _ _ _ _ _
end Go.Proofs.YtbiadmhomadflaaGreatDoor.Sm
namespace Go.Proofs.YtbiadmhomadflaaGreatDoor.Sm
open Go.RowKit Go.Own
attribute [local go_sem] ag120 ag122 ag76 ag75 ag5 ag3 cs120 cs122 cs76 cs75 cs5 cs3 sz120 sz122 sz76 sz75 sz5 sz3 isa75 isa5 isa3 z120 z76 ag78 cs78 sz78 z78 bu78 bu78s bs4 bs128 bs0 bs1
attribute [local go_sem ↓] shr_i64
attribute [-go_sem] run_string_add_if
attribute [local go_sem] bif32
set_option maxRecDepth 1000000 in
set_option maxHeartbeats 4000000 in
theorem rounds_loop (W : World) (h Wl : List Nat) (rb pw d : Nat) (hcl : h.length = 8) (hWl : Wl.length = 64) (hRB : blk W rb = some (.cells (cv .u32 rootsL) 76 (0, 0))) (hPW : blk W pw = some (.cells (cv .u32 Wl) 76 (0, 0)))
    (c0 c1 c2 c3 c4 c5 c7 c8 c10 c13 c14 c15 c16 c17 c18 c19 c20 c21 c22 c23 c24 c25 c26 c27 c28 c29 c30 c31 c32 c33 c34 c35 c36 c37 c38 c39 c40 c41 c42 c43 c44 c45 c46 c47 c48 c49 c50 c51 c52 c53 c54 c55 c56 c57 c58 c59 c60 c61 c62 c63 c64 c65 c66 c67 c68 c69 c70 c71 c72 c73 c74 c75 c76 c77 c78 c79 c80 c81 c82 c83 c84 c85 c86 c87 c88 c89 c90 c91 c92 c93 c94 c95 c96 c97 c98 c99 c100 c101 c102 c103 c104 c105 c106 c107 c108 c109 c110 c111 c112 c113 c114 c115 c116 c117 c118 c119 c120 c121 c122 c123 c124 c125 c126 c127 c128 c129 c130 c131 c132 c133 c134 c135 c136 c137 c138 c139 c140 c141 c142 c143 c144 c145 c146 c147 c148 c149 c150 c151 c152 c153 c154 c155 c156 c157 c158 c159 c160 c161 c162 c163 c164 c165 c166 c167 c168 c169 c170 c171 c172 c173 c174 c175 c176 c177 c178 c179 c180 c181 c182 c183 c184 c185 c186 c187 c188 c189 c190 c191 c192 c193 c194 c195 c196 c197 c198 c199 c200 c201 c202 c203 c204 c205 c206 c207 c208 c209 c210 c211 c212 c213 c214 c215 c216 c217 c218 c219 c220 c221 c222 c223 c224 c225 c226 c227 c228 c229 c230 c231 c232 c233 c234 c235 c236 c237 c238 c239 c240 c241 c242 c243 c244 c245 c246 c247 c248 c249 c250 c251 c252 c253 c254 c255 c256 c257 c258 c259 c260 c261 c262 c263 c264 c265 c266 c267 c268 c269 c270 c271 c272 c273 c274 c275 c276 c277 c278 c279 : Value) (Q0 : Exit → Act → World → Prop)
    (hexit : ∀ (u12 u13 u14 u151 u152 u153 u154 u155 u156 u157 u158 u159 u160 u161 u162 u163 u164 u165 u166 u167 u168 u169 u170 u171 u172 u173 u174 u175 u176 u177 u178 u179 u180 u181 u182 u183 u184 u185 u186 u187 u188 u189 u190 u191 u192 u193 u194 u195 u196 u197 u198 u199 u200 u201 u202 u203 u204 u205 u206 u207 u208 u209 u210 u211 u212 u213 u214 u215 u216 u217 u218 u219 u220 u221 u222 u223 u224 u225 u226 u227 u228 u229 u230 u231 u232 u233 u234 u235 u236 u237 u238 : Value) (d : Nat), Q0 (.exit 8) ⟨List.toArray (c0 :: c1 :: c2 :: c3 :: c4 :: c5 :: .pointer (some ⟨rb, 0, none⟩) :: c7 :: c8 :: .pointer (some ⟨pw, 0, none⟩) :: c10 :: .pointer (some ⟨W.heap.size, 0, none⟩) :: u12 :: u13 :: u14 :: c15 :: c16 :: c17 :: c18 :: c19 :: c20 :: c21 :: c22 :: c23 :: c24 :: c25 :: c26 :: c27 :: c28 :: c29 :: c30 :: c31 :: c32 :: c33 :: c34 :: c35 :: c36 :: c37 :: c38 :: c39 :: c40 :: c41 :: c42 :: c43 :: c44 :: c45 :: c46 :: c47 :: c48 :: c49 :: c50 :: c51 :: c52 :: c53 :: c54 :: c55 :: c56 :: c57 :: c58 :: c59 :: c60 :: c61 :: c62 :: c63 :: c64 :: c65 :: c66 :: c67 :: c68 :: c69 :: c70 :: c71 :: c72 :: c73 :: c74 :: c75 :: c76 :: c77 :: c78 :: c79 :: c80 :: c81 :: c82 :: c83 :: c84 :: c85 :: c86 :: c87 :: c88 :: c89 :: c90 :: c91 :: c92 :: c93 :: c94 :: c95 :: c96 :: c97 :: c98 :: c99 :: c100 :: c101 :: c102 :: c103 :: c104 :: c105 :: c106 :: c107 :: c108 :: c109 :: c110 :: c111 :: c112 :: c113 :: c114 :: c115 :: c116 :: c117 :: c118 :: c119 :: c120 :: c121 :: c122 :: c123 :: c124 :: c125 :: c126 :: c127 :: c128 :: c129 :: c130 :: c131 :: c132 :: c133 :: c134 :: c135 :: c136 :: c137 :: c138 :: c139 :: c140 :: c141 :: c142 :: c143 :: c144 :: c145 :: c146 :: c147 :: c148 :: c149 :: c150 :: u151 :: u152 :: u153 :: u154 :: u155 :: u156 :: u157 :: u158 :: u159 :: u160 :: u161 :: u162 :: u163 :: u164 :: u165 :: u166 :: u167 :: u168 :: u169 :: u170 :: u171 :: u172 :: u173 :: u174 :: u175 :: u176 :: u177 :: u178 :: u179 :: u180 :: u181 :: u182 :: u183 :: u184 :: u185 :: u186 :: u187 :: u188 :: u189 :: u190 :: u191 :: u192 :: u193 :: u194 :: u195 :: u196 :: u197 :: u198 :: u199 :: u200 :: u201 :: u202 :: u203 :: u204 :: u205 :: u206 :: u207 :: u208 :: u209 :: u210 :: u211 :: u212 :: u213 :: u214 :: u215 :: u216 :: u217 :: u218 :: u219 :: u220 :: u221 :: u222 :: u223 :: u224 :: u225 :: u226 :: u227 :: u228 :: u229 :: u230 :: u231 :: u232 :: u233 :: u234 :: u235 :: u236 :: u237 :: u238 :: c239 :: c240 :: c241 :: c242 :: c243 :: c244 :: c245 :: c246 :: c247 :: c248 :: c249 :: c250 :: c251 :: c252 :: c253 :: c254 :: c255 :: c256 :: c257 :: c258 :: c259 :: c260 :: c261 :: c262 :: c263 :: c264 :: c265 :: c266 :: c267 :: c268 :: c269 :: c270 :: c271 :: c272 :: c273 :: c274 :: c275 :: c276 :: c277 :: c278 :: c279 :: []), []⟩ (Wd W [.cells (cv .u32 (rd Wl h 64)) 78 (0, 0)] d)) :
    (ref12 4).wp Tryz.prog Q0 ⟨List.toArray (c0 :: c1 :: c2 :: c3 :: c4 :: c5 :: .pointer (some ⟨rb, 0, none⟩) :: c7 :: c8 :: .pointer (some ⟨pw, 0, none⟩) :: c10 :: .pointer (some ⟨W.heap.size, 0, none⟩) :: .int .i64 0 :: c13 :: c14 :: c15 :: c16 :: c17 :: c18 :: c19 :: c20 :: c21 :: c22 :: c23 :: c24 :: c25 :: c26 :: c27 :: c28 :: c29 :: c30 :: c31 :: c32 :: c33 :: c34 :: c35 :: c36 :: c37 :: c38 :: c39 :: c40 :: c41 :: c42 :: c43 :: c44 :: c45 :: c46 :: c47 :: c48 :: c49 :: c50 :: c51 :: c52 :: c53 :: c54 :: c55 :: c56 :: c57 :: c58 :: c59 :: c60 :: c61 :: c62 :: c63 :: c64 :: c65 :: c66 :: c67 :: c68 :: c69 :: c70 :: c71 :: c72 :: c73 :: c74 :: c75 :: c76 :: c77 :: c78 :: c79 :: c80 :: c81 :: c82 :: c83 :: c84 :: c85 :: c86 :: c87 :: c88 :: c89 :: c90 :: c91 :: c92 :: c93 :: c94 :: c95 :: c96 :: c97 :: c98 :: c99 :: c100 :: c101 :: c102 :: c103 :: c104 :: c105 :: c106 :: c107 :: c108 :: c109 :: c110 :: c111 :: c112 :: c113 :: c114 :: c115 :: c116 :: c117 :: c118 :: c119 :: c120 :: c121 :: c122 :: c123 :: c124 :: c125 :: c126 :: c127 :: c128 :: c129 :: c130 :: c131 :: c132 :: c133 :: c134 :: c135 :: c136 :: c137 :: c138 :: c139 :: c140 :: c141 :: c142 :: c143 :: c144 :: c145 :: c146 :: c147 :: c148 :: c149 :: c150 :: c151 :: c152 :: c153 :: c154 :: c155 :: c156 :: c157 :: c158 :: c159 :: c160 :: c161 :: c162 :: c163 :: c164 :: c165 :: c166 :: c167 :: c168 :: c169 :: c170 :: c171 :: c172 :: c173 :: c174 :: c175 :: c176 :: c177 :: c178 :: c179 :: c180 :: c181 :: c182 :: c183 :: c184 :: c185 :: c186 :: c187 :: c188 :: c189 :: c190 :: c191 :: c192 :: c193 :: c194 :: c195 :: c196 :: c197 :: c198 :: c199 :: c200 :: c201 :: c202 :: c203 :: c204 :: c205 :: c206 :: c207 :: c208 :: c209 :: c210 :: c211 :: c212 :: c213 :: c214 :: c215 :: c216 :: c217 :: c218 :: c219 :: c220 :: c221 :: c222 :: c223 :: c224 :: c225 :: c226 :: c227 :: c228 :: c229 :: c230 :: c231 :: c232 :: c233 :: c234 :: c235 :: c236 :: c237 :: c238 :: c239 :: c240 :: c241 :: c242 :: c243 :: c244 :: c245 :: c246 :: c247 :: c248 :: c249 :: c250 :: c251 :: c252 :: c253 :: c254 :: c255 :: c256 :: c257 :: c258 :: c259 :: c260 :: c261 :: c262 :: c263 :: c264 :: c265 :: c266 :: c267 :: c268 :: c269 :: c270 :: c271 :: c272 :: c273 :: c274 :: c275 :: c276 :: c277 :: c278 :: c279 :: []), []⟩ (Wd W [.cells (cv .u32 h) 78 (0, 0)] d) := by
  conv => arg 2; whnf
  have HRB := Lib.hid hRB
  have HPW := Lib.hid hPW
  have hRW : ∀ (l : List Obj) (d : Nat), blk (Wd W l d) rb = some (.cells (cv .u32 rootsL) 76 (0, 0)) := fun l d => blk_old _ _ _ _ HRB.out
  have hPP : ∀ (l : List Obj) (d : Nat), blk (Wd W l d) pw = some (.cells (cv .u32 Wl) 76 (0, 0)) := fun l d => blk_old _ _ _ _ HPW.out
  clear hRB hPW
  go_loopw [12] (fun i wr => ∃ (k d : Nat) (v : List Nat), k ≤ 64 ∧ i = .int .i64 k ∧ Hid (rd Wl h k = v) ∧ Hid (v.length = 8) ∧ wr = Wd W [.cells (cv .u32 v) 78 (0, 0)] d) (fun i _ => 64 - (intOf i).toNat)
  case atStart => exact ⟨0, _, h, by omega, rfl, Lib.hid rfl, Lib.hid hcl, rfl⟩
  case round =>
    obtain ⟨k, d, v, hk, rfl, hv, hvl, rfl⟩ := hrel
    have hvl8 := hvl.out
    by_cases hk64 : k < 64
    · have hn : Hid (rd Wl h (k + 1) = [add32 (add32 (add32 (add32 (add32 (gi v 7) (xor32 (xor32 (rotI (gi v 4) 6) (rotI (gi v 4) 11)) (rotI (gi v 4) 25))) (xor32 (and32 (gi v 4) (gi v 5)) (and32 (not32 (gi v 4)) (gi v 6)))) (gi rootsL k)) (gi Wl k)) (add32 (xor32 (xor32 (rotI (gi v 0) 2) (rotI (gi v 0) 13)) (rotI (gi v 0) 22)) (xor32 (xor32 (and32 (gi v 0) (gi v 1)) (and32 (gi v 0) (gi v 2))) (and32 (gi v 1) (gi v 2)))), gi v 0, gi v 1, gi v 2, add32 (gi v 3) (add32 (add32 (add32 (add32 (gi v 7) (xor32 (xor32 (rotI (gi v 4) 6) (rotI (gi v 4) 11)) (rotI (gi v 4) 25))) (xor32 (and32 (gi v 4) (gi v 5)) (and32 (not32 (gi v 4)) (gi v 6)))) (gi rootsL k)) (gi Wl k)), gi v 4, gi v 5, gi v 6]) := Lib.hid (by rw [rd, hv.out, rdF, turnedF, turnedF, pickF, mostF])
      have hrtl : k < rootsL.length := hk64
      have hki : (k : Int) < 64 := by omega
      go_wp2
      refine wp_region_drew 35 (by kernel_rfl) (by kernel_rfl) ?_
      simp only [List.take_succ_cons, List.take_zero, List.drop_succ_cons, List.drop_zero]
      repeat (go_big_quiet_step (exact drew_same (turn_int _ _ (by decide) (by decide) _)))
      refine wpQuiet_nil ?_
      intro eR
      go_wp2
      refine wp_region_drew 29 (by kernel_rfl) (by kernel_rfl) ?_
      simp only [List.take_succ_cons, List.take_zero, List.drop_succ_cons, List.drop_zero]
      repeat (go_big_quiet_step (exact drew_same (turn_int _ _ (by decide) (by decide) _)))
      refine wpQuiet_nil ?_
      intro eR2
      go_wp2
      go_roundw
      case rel => exact ⟨k + 1, _, _, by omega, by go_num, hn, Lib.hid rfl, rfl⟩
      case measure => simp [intOf]; omega
    · obtain rfl : k = 64 := by omega
      clear hk64
      go_wp2
      rw [← hv.out]
      exact hexit _ _ _ _ _ _ _ _ _ _ _ _ _ _ _ _ _ _ _ _ _ _ _ _ _ _ _ _ _ _ _ _ _ _ _ _ _ _ _ _ _ _ _ _ _ _ _ _ _ _ _ _ _ _ _ _ _ _ _ _ _ _ _ _ _ _ _ _ _ _ _ _ _ _ _ _ _ _ _ _ _ _ _ _ _ _ _ _ _ _ _ _
end Go.Proofs.YtbiadmhomadflaaGreatDoor.Sm
namespace Go.Proofs.YtbiadmhomadflaaGreatDoor.Sm
open Go.RowKit Go.Own
attribute [local go_sem] ag120 ag122 ag76 ag75 ag5 ag3 cs120 cs122 cs76 cs75 cs5 cs3 sz120 sz122 sz76 sz75 sz5 sz3 isa75 isa5 isa3 z120 z76 ag78 cs78 sz78 z78 bu78 bu78s bs4 bs128 bs0 bs1
attribute [local go_sem ↓] shr_i64
attribute [-go_sem] run_string_add_if
attribute [local go_sem] bif32
set_option maxRecDepth 1000000 in
set_option maxHeartbeats 4000000 in
theorem words_loop (W : World) (S S1 bl : List Nat) (sb ML N b d : Nat) (tS : TypeId) (fS : Nat × Nat) (HMN : Hid (64 * N = ML)) (hbN : b < N) (hMLb : ML ≤ 1099511627776) (HTS : Hid (S1.take ML = S)) (hleS : ML ≤ S1.length)
    (hS8 : Hid (B8 S)) (HBL : Hid (blkB S b = bl)) (HSB : Hid (blk W sb = some (.cells (cv .u8 S1) tS fS)))
    (c0 c1 c2 c4 c5 c6 c7 c11 c12 c13 c14 c15 c16 c17 c18 c19 c20 c21 c22 c23 c24 c25 c26 c27 c28 c29 c30 c31 c32 c33 c34 c35 c36 c37 c38 c39 c40 c41 c42 c43 c44 c45 c46 c47 c48 c49 c50 c51 c52 c53 c54 c55 c56 c57 c58 c59 c60 c61 c62 c63 c64 c65 c66 c67 c68 c69 c70 c71 c72 c73 c74 c75 c76 c77 c78 c79 c80 c81 c82 c83 c84 c85 c86 c87 c88 c89 c90 c91 c92 c93 c94 c95 c96 c97 c98 c99 c100 c101 c102 c103 c104 c105 c106 c107 c108 c109 c110 c111 c112 c113 c114 c115 c116 c117 c118 c119 c120 c121 c122 c123 c124 c125 c126 c127 c128 c129 c130 c131 c132 c133 c134 c135 c136 c137 c138 c139 c140 c141 c142 c143 c144 c145 c146 c147 c148 c149 c150 c151 c152 c153 c154 c155 c156 c157 c158 c159 c160 c161 c162 c163 c164 c165 c166 c167 c168 c169 c170 c171 c172 c173 c174 c175 c176 c177 c178 c179 c180 c181 c182 c183 c184 c185 c186 c187 c188 c189 c190 c191 c192 c193 c194 c195 c196 c197 c198 c199 c200 c201 c202 c203 c204 c205 c206 c207 c208 c209 c210 c211 c212 c213 c214 c215 c216 c217 c218 c219 c220 c221 c222 c223 c224 c225 c226 c227 c228 c229 c230 c231 c232 c233 c234 c235 c236 c237 c238 c239 c240 c241 c242 c243 c244 c245 c246 c247 c248 c249 c250 c251 c252 c253 c254 c255 c256 c257 c258 c259 c260 c261 c262 c263 c264 c265 c266 c267 c268 c269 c270 c271 c272 c273 c274 c275 c276 c277 c278 c279 : Value) (Q0 : Exit → Act → World → Prop)
    (hexit : ∀ (u10 u54 u55 u56 u57 u58 u59 u60 u61 u62 u63 u64 u65 u66 u67 u68 u69 u70 u71 u72 u73 u74 u75 u76 u77 u78 u79 u80 u81 u82 u83 u84 u85 u86 u87 u88 u89 u90 u91 u92 u93 u94 u95 u96 u97 u98 u99 u100 u101 u102 u103 u104 u105 u106 u107 u108 u109 u110 u111 u112 u113 u114 u115 u116 u117 u118 u119 u120 u121 u122 u123 u124 u125 u126 u127 u128 u129 u130 u131 u132 u133 u134 u135 u136 u137 u138 u139 u140 u141 u142 u143 u144 u145 u146 u147 u148 u149 : Value) (d : Nat), Q0 (.exit 6) ⟨List.toArray (c0 :: c1 :: c2 :: .slice (some ⟨sb, 0, none⟩) ML S1.length :: c4 :: c5 :: c6 :: c7 :: .int .i64 (64 * (b : Int)) :: .pointer (some ⟨W.heap.size, 0, none⟩) :: u10 :: c11 :: c12 :: c13 :: c14 :: c15 :: c16 :: c17 :: c18 :: c19 :: c20 :: c21 :: c22 :: c23 :: c24 :: c25 :: c26 :: c27 :: c28 :: c29 :: c30 :: c31 :: c32 :: c33 :: c34 :: c35 :: c36 :: c37 :: c38 :: c39 :: c40 :: c41 :: c42 :: c43 :: c44 :: c45 :: c46 :: c47 :: c48 :: c49 :: c50 :: c51 :: c52 :: c53 :: u54 :: u55 :: u56 :: u57 :: u58 :: u59 :: u60 :: u61 :: u62 :: u63 :: u64 :: u65 :: u66 :: u67 :: u68 :: u69 :: u70 :: u71 :: u72 :: u73 :: u74 :: u75 :: u76 :: u77 :: u78 :: u79 :: u80 :: u81 :: u82 :: u83 :: u84 :: u85 :: u86 :: u87 :: u88 :: u89 :: u90 :: u91 :: u92 :: u93 :: u94 :: u95 :: u96 :: u97 :: u98 :: u99 :: u100 :: u101 :: u102 :: u103 :: u104 :: u105 :: u106 :: u107 :: u108 :: u109 :: u110 :: u111 :: u112 :: u113 :: u114 :: u115 :: u116 :: u117 :: u118 :: u119 :: u120 :: u121 :: u122 :: u123 :: u124 :: u125 :: u126 :: u127 :: u128 :: u129 :: u130 :: u131 :: u132 :: u133 :: u134 :: u135 :: u136 :: u137 :: u138 :: u139 :: u140 :: u141 :: u142 :: u143 :: u144 :: u145 :: u146 :: u147 :: u148 :: u149 :: c150 :: c151 :: c152 :: c153 :: c154 :: c155 :: c156 :: c157 :: c158 :: c159 :: c160 :: c161 :: c162 :: c163 :: c164 :: c165 :: c166 :: c167 :: c168 :: c169 :: c170 :: c171 :: c172 :: c173 :: c174 :: c175 :: c176 :: c177 :: c178 :: c179 :: c180 :: c181 :: c182 :: c183 :: c184 :: c185 :: c186 :: c187 :: c188 :: c189 :: c190 :: c191 :: c192 :: c193 :: c194 :: c195 :: c196 :: c197 :: c198 :: c199 :: c200 :: c201 :: c202 :: c203 :: c204 :: c205 :: c206 :: c207 :: c208 :: c209 :: c210 :: c211 :: c212 :: c213 :: c214 :: c215 :: c216 :: c217 :: c218 :: c219 :: c220 :: c221 :: c222 :: c223 :: c224 :: c225 :: c226 :: c227 :: c228 :: c229 :: c230 :: c231 :: c232 :: c233 :: c234 :: c235 :: c236 :: c237 :: c238 :: c239 :: c240 :: c241 :: c242 :: c243 :: c244 :: c245 :: c246 :: c247 :: c248 :: c249 :: c250 :: c251 :: c252 :: c253 :: c254 :: c255 :: c256 :: c257 :: c258 :: c259 :: c260 :: c261 :: c262 :: c263 :: c264 :: c265 :: c266 :: c267 :: c268 :: c269 :: c270 :: c271 :: c272 :: c273 :: c274 :: c275 :: c276 :: c277 :: c278 :: c279 :: []), []⟩ (Wd W [.cells (cv .u32 (rwd bl 64)) 76 (0, 0)] d)) :
    (ref12 3).wp Tryz.prog Q0 ⟨List.toArray (c0 :: c1 :: c2 :: .slice (some ⟨sb, 0, none⟩) ML S1.length :: c4 :: c5 :: c6 :: c7 :: .int .i64 (64 * (b : Int)) :: .pointer (some ⟨W.heap.size, 0, none⟩) :: .int .i64 0 :: c11 :: c12 :: c13 :: c14 :: c15 :: c16 :: c17 :: c18 :: c19 :: c20 :: c21 :: c22 :: c23 :: c24 :: c25 :: c26 :: c27 :: c28 :: c29 :: c30 :: c31 :: c32 :: c33 :: c34 :: c35 :: c36 :: c37 :: c38 :: c39 :: c40 :: c41 :: c42 :: c43 :: c44 :: c45 :: c46 :: c47 :: c48 :: c49 :: c50 :: c51 :: c52 :: c53 :: c54 :: c55 :: c56 :: c57 :: c58 :: c59 :: c60 :: c61 :: c62 :: c63 :: c64 :: c65 :: c66 :: c67 :: c68 :: c69 :: c70 :: c71 :: c72 :: c73 :: c74 :: c75 :: c76 :: c77 :: c78 :: c79 :: c80 :: c81 :: c82 :: c83 :: c84 :: c85 :: c86 :: c87 :: c88 :: c89 :: c90 :: c91 :: c92 :: c93 :: c94 :: c95 :: c96 :: c97 :: c98 :: c99 :: c100 :: c101 :: c102 :: c103 :: c104 :: c105 :: c106 :: c107 :: c108 :: c109 :: c110 :: c111 :: c112 :: c113 :: c114 :: c115 :: c116 :: c117 :: c118 :: c119 :: c120 :: c121 :: c122 :: c123 :: c124 :: c125 :: c126 :: c127 :: c128 :: c129 :: c130 :: c131 :: c132 :: c133 :: c134 :: c135 :: c136 :: c137 :: c138 :: c139 :: c140 :: c141 :: c142 :: c143 :: c144 :: c145 :: c146 :: c147 :: c148 :: c149 :: c150 :: c151 :: c152 :: c153 :: c154 :: c155 :: c156 :: c157 :: c158 :: c159 :: c160 :: c161 :: c162 :: c163 :: c164 :: c165 :: c166 :: c167 :: c168 :: c169 :: c170 :: c171 :: c172 :: c173 :: c174 :: c175 :: c176 :: c177 :: c178 :: c179 :: c180 :: c181 :: c182 :: c183 :: c184 :: c185 :: c186 :: c187 :: c188 :: c189 :: c190 :: c191 :: c192 :: c193 :: c194 :: c195 :: c196 :: c197 :: c198 :: c199 :: c200 :: c201 :: c202 :: c203 :: c204 :: c205 :: c206 :: c207 :: c208 :: c209 :: c210 :: c211 :: c212 :: c213 :: c214 :: c215 :: c216 :: c217 :: c218 :: c219 :: c220 :: c221 :: c222 :: c223 :: c224 :: c225 :: c226 :: c227 :: c228 :: c229 :: c230 :: c231 :: c232 :: c233 :: c234 :: c235 :: c236 :: c237 :: c238 :: c239 :: c240 :: c241 :: c242 :: c243 :: c244 :: c245 :: c246 :: c247 :: c248 :: c249 :: c250 :: c251 :: c252 :: c253 :: c254 :: c255 :: c256 :: c257 :: c258 :: c259 :: c260 :: c261 :: c262 :: c263 :: c264 :: c265 :: c266 :: c267 :: c268 :: c269 :: c270 :: c271 :: c272 :: c273 :: c274 :: c275 :: c276 :: c277 :: c278 :: c279 :: []), []⟩ (Wd W [.cells (cv .u32 (rep 64)) 76 (0, 0)] d) := by
  conv => arg 2; whnf
  go_loopw [10] (fun i wr => ∃ (t d : Nat), t ≤ 64 ∧ i = .int .i64 t ∧ wr = Wd W [.cells (cv .u32 (rwd bl t)) 76 (0, 0)] d) (fun i _ => 64 - (intOf i).toNat)
  case atStart => exact ⟨0, _, by omega, rfl, rfl⟩
  case round =>
    obtain ⟨t, d, ht, rfl, rfl⟩ := hrel
    have hrl := rwd_length bl t ht
    by_cases ht64 : t < 64
    · have hti : (t : Int) < 64 := by omega
      by_cases ht16 : t < 16
      · have hti16 : (t : Int) < 16 := by omega
        obtain ⟨p0, hp0⟩ : ∃ p, 64 * b + 4 * t = p := ⟨_, rfl⟩
        obtain ⟨p1, hp1⟩ : ∃ p, p0 + 1 = p := ⟨_, rfl⟩
        obtain ⟨p2, hp2⟩ : ∃ p, p0 + 2 = p := ⟨_, rfl⟩
        obtain ⟨p3, hp3⟩ : ∃ p, p0 + 3 = p := ⟨_, rfl⟩
        have hMN := HMN.out
        obtain ⟨t4, ht4⟩ : ∃ t4 : Nat, 4 * t = t4 := ⟨_, rfl⟩
        have e4 : IntKind.i64.wrap (4 * (t : Int)) = (t4 : Int) := by rw [IntWalk.i64_in _ (by omega)]; omega
        have e0 : IntKind.i64.wrap (64 * (b : Int) + (t4 : Int)) = (p0 : Int) := by rw [IntWalk.i64_in _ (by omega)]; omega
        have e1 : IntKind.i64.wrap ((p0 : Int) + 1) = (p1 : Int) := by rw [IntWalk.i64_in _ (by omega)]; omega
        have e2 : IntKind.i64.wrap ((p0 : Int) + 2) = (p2 : Int) := by rw [IntWalk.i64_in _ (by omega)]; omega
        have e3 : IntKind.i64.wrap ((p0 : Int) + 3) = (p3 : Int) := by rw [IntWalk.i64_in _ (by omega)]; omega
        have q0 : (p0 : Int) < (ML : Int) := by omega
        have q1 : (p1 : Int) < (ML : Int) := by omega
        have q2 : (p2 : Int) < (ML : Int) := by omega
        have q3 : (p3 : Int) < (ML : Int) := by omega
        have r0 : p0 < S1.length := by omega
        have r1 : p1 < S1.length := by omega
        have r2 : p2 < S1.length := by omega
        have r3 : p3 < S1.length := by omega
        have g0 : gi S1 p0 = gi bl (4 * t) := by rw [gi_take' HTS.out (by omega), ← HBL.out, blkB_gi _ _ _ (by omega)]; congr 1; omega
        have g1 : gi S1 p1 = gi bl (4 * t + 1) := by rw [gi_take' HTS.out (by omega), ← HBL.out, blkB_gi _ _ _ (by omega)]; congr 1; omega
        have g2 : gi S1 p2 = gi bl (4 * t + 2) := by rw [gi_take' HTS.out (by omega), ← HBL.out, blkB_gi _ _ _ (by omega)]; congr 1; omega
        have g3 : gi S1 p3 = gi bl (4 * t + 3) := by rw [gi_take' HTS.out (by omega), ← HBL.out, blkB_gi _ _ _ (by omega)]; congr 1; omega
        obtain ⟨R, hR⟩ : ∃ R, rwd bl (t + 1) = R := ⟨_, rfl⟩
        have hst : Hid (spl (rwd bl t) t [add32 (add32 (add32 (shl32 (gi S1 p0) 24) (shl32 (gi S1 p1) 16)) (shl32 (gi S1 p2) 8)) (gi S1 p3)] = R) := Lib.hid (by
          rw [← hR, rwd, if_pos ht16, g0, g1, g2, g3, be32])
        have hb8 : B8 S1 ∨ True := Or.inr trivial
        have hlt256 : ∀ q, q < ML → gi S1 q < 256 := fun q hq => by rw [gi_take' HTS.out hq]; exact hS8.out.gi _
        have w0 := u32_of_u8 (hlt256 p0 (by omega))
        have w1 := u32_of_u8 (hlt256 p1 (by omega))
        have w2 := u32_of_u8 (hlt256 p2 (by omega))
        have w3 := u32_of_u8 (hlt256 p3 (by omega))
        have HR := Lib.hid hR
        have hSW : ∀ (l : List Obj) (d : Nat), blk (Wd W l d) sb = some (.cells (cv .u8 S1) tS fS) := fun l d => blk_old _ _ _ _ HSB.out
        clear hR g0 g1 g2 g3 hlt256 hb8 hp0 hp1 hp2 hp3 ht4 hMN
        generalize rwd bl t = Q at *
        go_wp2
        refine wp_region_drew 43 (by kernel_rfl) (by kernel_rfl) ?_
        simp only [List.take_succ_cons, List.take_zero, List.drop_succ_cons, List.drop_zero]
        repeat (go_big_quiet_step (fail))
        refine wpQuiet_nil ?_
        intro eR
        go_wp2
        go_roundw
        case rel => exact ⟨t + 1, _, by omega, by go_num, by rw [hst.out, ← HR.out]⟩
        case measure => simp [intOf]; omega
      · have hti16 : ¬ (t : Int) < 16 := by omega
        obtain ⟨p2, hp2⟩ : ∃ p, t - 2 = p := ⟨_, rfl⟩
        obtain ⟨p7, hp7⟩ : ∃ p, t - 7 = p := ⟨_, rfl⟩
        obtain ⟨p15, hp15⟩ : ∃ p, t - 15 = p := ⟨_, rfl⟩
        obtain ⟨p16, hp16⟩ : ∃ p, t - 16 = p := ⟨_, rfl⟩
        have e2 : IntKind.i64.wrap ((t : Int) - 2) = (p2 : Int) := by rw [IntWalk.i64_in _ (by omega)]; omega
        have e7 : IntKind.i64.wrap ((t : Int) - 7) = (p7 : Int) := by rw [IntWalk.i64_in _ (by omega)]; omega
        have e15 : IntKind.i64.wrap ((t : Int) - 15) = (p15 : Int) := by rw [IntWalk.i64_in _ (by omega)]; omega
        have e16 : IntKind.i64.wrap ((t : Int) - 16) = (p16 : Int) := by rw [IntWalk.i64_in _ (by omega)]; omega
        have q2 : (p2 : Int) < 64 := by omega
        have q7 : (p7 : Int) < 64 := by omega
        have q15 : (p15 : Int) < 64 := by omega
        have q16 : (p16 : Int) < 64 := by omega
        have r2 : p2 < 64 := by omega
        have r7 : p7 < 64 := by omega
        have r15 : p15 < 64 := by omega
        have r16 : p16 < 64 := by omega
        obtain ⟨R, hR⟩ : ∃ R, rwd bl (t + 1) = R := ⟨_, rfl⟩
        have hst : Hid (spl (rwd bl t) t [add32 (add32 (add32 (xor32 (xor32 (rotI (gi (rwd bl t) p2) 17) (rotI (gi (rwd bl t) p2) 19)) (shr32 (gi (rwd bl t) p2) 10)) (gi (rwd bl t) p7)) (xor32 (xor32 (rotI (gi (rwd bl t) p15) 7) (rotI (gi (rwd bl t) p15) 18)) (shr32 (gi (rwd bl t) p15) 3))) (gi (rwd bl t) p16)] = R) := Lib.hid (by
          rw [← hR, rwd, if_neg ht16, hp2, hp7, hp15, hp16, sh_17, sh_7])
        have HR := Lib.hid hR
        clear hR hp2 hp7 hp15 hp16
        generalize rwd bl t = Q at *
        go_wp2
        refine wp_region_drew 47 (by kernel_rfl) (by kernel_rfl) ?_
        simp only [List.take_succ_cons, List.take_zero, List.drop_succ_cons, List.drop_zero]
        repeat (go_big_quiet_step (exact drew_same (turn_int _ _ (by decide) (by decide) _)))
        refine wpQuiet_nil ?_
        intro eR
        go_wp2
        go_roundw
        case rel => exact ⟨t + 1, _, by omega, by go_num, by rw [hst.out, ← HR.out]⟩
        case measure => simp [intOf]; omega
    · obtain rfl : t = 64 := by omega
      obtain ⟨Wl, hWl⟩ : ∃ Wl, rwd bl 64 = Wl := ⟨_, rfl⟩
      rw [hWl] at hrl hexit ⊢
      clear hWl ht64
      go_wp2
      exact hexit _ _ _ _ _ _ _ _ _ _ _ _ _ _ _ _ _ _ _ _ _ _ _ _ _ _ _ _ _ _ _ _ _ _ _ _ _ _ _ _ _ _ _ _ _ _ _ _ _ _ _ _ _ _ _ _ _ _ _ _ _ _ _ _ _ _ _ _ _ _ _ _ _ _ _ _ _ _ _ _ _ _ _ _ _ _ _ _ _ _ _ _ _ _ _ _ _ _
end Go.Proofs.YtbiadmhomadflaaGreatDoor.Sm
namespace Go.Proofs.YtbiadmhomadflaaGreatDoor.Sm
open Go.RowKit Go.Own
attribute [local go_sem] ag120 ag122 ag76 ag75 ag5 ag3 cs120 cs122 cs76 cs75 cs5 cs3 sz120 sz122 sz76 sz75 sz5 sz3 isa75 isa5 isa3 z120 z76 ag78 cs78 sz78 z78 bu78 bu78s bs4 bs128 bs0 bs1
attribute [local go_sem ↓] shr_i64
attribute [-go_sem] run_string_add_if
attribute [local go_sem] bif32
set_option maxRecDepth 1000000 in
set_option maxHeartbeats 4000000 in
theorem text_loop (W : World) (h : List Nat) (g : List Obj) (d : Nat) (hcl : h.length = 8)
    (c0 c1 c2 c3 c4 c5 c6 c8 c9 c10 c11 c12 c13 c14 c15 c18 c19 c20 c21 c22 c23 c24 c25 c26 c27 c28 c29 c30 c31 c32 c33 c34 c35 c36 c37 c38 c39 c40 c41 c42 c43 c44 c45 c46 c47 c48 c49 c50 c51 c52 c53 c54 c55 c56 c57 c58 c59 c60 c61 c62 c63 c64 c65 c66 c67 c68 c69 c70 c71 c72 c73 c74 c75 c76 c77 c78 c79 c80 c81 c82 c83 c84 c85 c86 c87 c88 c89 c90 c91 c92 c93 c94 c95 c96 c97 c98 c99 c100 c101 c102 c103 c104 c105 c106 c107 c108 c109 c110 c111 c112 c113 c114 c115 c116 c117 c118 c119 c120 c121 c122 c123 c124 c125 c126 c127 c128 c129 c130 c131 c132 c133 c134 c135 c136 c137 c138 c139 c140 c141 c142 c143 c144 c145 c146 c147 c148 c149 c150 c151 c152 c153 c154 c155 c156 c157 c158 c159 c160 c161 c162 c163 c164 c165 c166 c167 c168 c169 c170 c171 c172 c173 c174 c175 c176 c177 c178 c179 c180 c181 c182 c183 c184 c185 c186 c187 c188 c189 c190 c191 c192 c193 c194 c195 c196 c197 c198 c199 c200 c201 c202 c203 c204 c205 c206 c207 c208 c209 c210 c211 c212 c213 c214 c215 c216 c217 c218 c219 c220 c221 c222 c223 c224 c225 c226 c227 c228 c229 c230 c231 c232 c233 c234 c235 c236 c237 c238 c239 c240 c241 c242 c243 c244 c245 c246 c247 c248 c249 c250 c251 c252 c253 c254 c255 c256 c257 c258 c259 c260 c261 c262 c263 c264 c265 c266 c267 c268 c269 c270 c271 c272 c273 c274 c275 c276 c277 c278 c279 : Value) (Q0 : Exit → Act → World → Prop) (hp : ∀ c a w (o : Option Tmp) v, Q0 (.panic c) (a.put o v) w → Q0 (.panic c) a w)
    (hexit : ∀ (u17 u252 u253 u254 u255 u256 u257 u258 u259 u260 u261 u262 u263 u264 u265 u266 u267 u268 u269 u270 u271 u272 u273 u274 u275 u276 u277 u278 : Value) (g : List Obj) (d : Nat), Q0 (.exit 12) ⟨List.toArray (c0 :: c1 :: c2 :: c3 :: c4 :: c5 :: c6 :: .pointer (some ⟨W.heap.size, 0, none⟩) :: c8 :: c9 :: c10 :: c11 :: c12 :: c13 :: c14 :: c15 :: .string (mkS (outS h 8)) :: u17 :: c18 :: c19 :: c20 :: c21 :: c22 :: c23 :: c24 :: c25 :: c26 :: c27 :: c28 :: c29 :: c30 :: c31 :: c32 :: c33 :: c34 :: c35 :: c36 :: c37 :: c38 :: c39 :: c40 :: c41 :: c42 :: c43 :: c44 :: c45 :: c46 :: c47 :: c48 :: c49 :: c50 :: c51 :: c52 :: c53 :: c54 :: c55 :: c56 :: c57 :: c58 :: c59 :: c60 :: c61 :: c62 :: c63 :: c64 :: c65 :: c66 :: c67 :: c68 :: c69 :: c70 :: c71 :: c72 :: c73 :: c74 :: c75 :: c76 :: c77 :: c78 :: c79 :: c80 :: c81 :: c82 :: c83 :: c84 :: c85 :: c86 :: c87 :: c88 :: c89 :: c90 :: c91 :: c92 :: c93 :: c94 :: c95 :: c96 :: c97 :: c98 :: c99 :: c100 :: c101 :: c102 :: c103 :: c104 :: c105 :: c106 :: c107 :: c108 :: c109 :: c110 :: c111 :: c112 :: c113 :: c114 :: c115 :: c116 :: c117 :: c118 :: c119 :: c120 :: c121 :: c122 :: c123 :: c124 :: c125 :: c126 :: c127 :: c128 :: c129 :: c130 :: c131 :: c132 :: c133 :: c134 :: c135 :: c136 :: c137 :: c138 :: c139 :: c140 :: c141 :: c142 :: c143 :: c144 :: c145 :: c146 :: c147 :: c148 :: c149 :: c150 :: c151 :: c152 :: c153 :: c154 :: c155 :: c156 :: c157 :: c158 :: c159 :: c160 :: c161 :: c162 :: c163 :: c164 :: c165 :: c166 :: c167 :: c168 :: c169 :: c170 :: c171 :: c172 :: c173 :: c174 :: c175 :: c176 :: c177 :: c178 :: c179 :: c180 :: c181 :: c182 :: c183 :: c184 :: c185 :: c186 :: c187 :: c188 :: c189 :: c190 :: c191 :: c192 :: c193 :: c194 :: c195 :: c196 :: c197 :: c198 :: c199 :: c200 :: c201 :: c202 :: c203 :: c204 :: c205 :: c206 :: c207 :: c208 :: c209 :: c210 :: c211 :: c212 :: c213 :: c214 :: c215 :: c216 :: c217 :: c218 :: c219 :: c220 :: c221 :: c222 :: c223 :: c224 :: c225 :: c226 :: c227 :: c228 :: c229 :: c230 :: c231 :: c232 :: c233 :: c234 :: c235 :: c236 :: c237 :: c238 :: c239 :: c240 :: c241 :: c242 :: c243 :: c244 :: c245 :: c246 :: c247 :: c248 :: c249 :: c250 :: c251 :: u252 :: u253 :: u254 :: u255 :: u256 :: u257 :: u258 :: u259 :: u260 :: u261 :: u262 :: u263 :: u264 :: u265 :: u266 :: u267 :: u268 :: u269 :: u270 :: u271 :: u272 :: u273 :: u274 :: u275 :: u276 :: u277 :: u278 :: c279 :: []), []⟩ (Wd W (.cells (cv .u32 h) 78 (0, 0) :: g) d)) :
    (ref12 6).wp Tryz.prog Q0 ⟨List.toArray (c0 :: c1 :: c2 :: c3 :: c4 :: c5 :: c6 :: .pointer (some ⟨W.heap.size, 0, none⟩) :: c8 :: c9 :: c10 :: c11 :: c12 :: c13 :: c14 :: c15 :: .string (mkS []) :: .int .i64 0 :: c18 :: c19 :: c20 :: c21 :: c22 :: c23 :: c24 :: c25 :: c26 :: c27 :: c28 :: c29 :: c30 :: c31 :: c32 :: c33 :: c34 :: c35 :: c36 :: c37 :: c38 :: c39 :: c40 :: c41 :: c42 :: c43 :: c44 :: c45 :: c46 :: c47 :: c48 :: c49 :: c50 :: c51 :: c52 :: c53 :: c54 :: c55 :: c56 :: c57 :: c58 :: c59 :: c60 :: c61 :: c62 :: c63 :: c64 :: c65 :: c66 :: c67 :: c68 :: c69 :: c70 :: c71 :: c72 :: c73 :: c74 :: c75 :: c76 :: c77 :: c78 :: c79 :: c80 :: c81 :: c82 :: c83 :: c84 :: c85 :: c86 :: c87 :: c88 :: c89 :: c90 :: c91 :: c92 :: c93 :: c94 :: c95 :: c96 :: c97 :: c98 :: c99 :: c100 :: c101 :: c102 :: c103 :: c104 :: c105 :: c106 :: c107 :: c108 :: c109 :: c110 :: c111 :: c112 :: c113 :: c114 :: c115 :: c116 :: c117 :: c118 :: c119 :: c120 :: c121 :: c122 :: c123 :: c124 :: c125 :: c126 :: c127 :: c128 :: c129 :: c130 :: c131 :: c132 :: c133 :: c134 :: c135 :: c136 :: c137 :: c138 :: c139 :: c140 :: c141 :: c142 :: c143 :: c144 :: c145 :: c146 :: c147 :: c148 :: c149 :: c150 :: c151 :: c152 :: c153 :: c154 :: c155 :: c156 :: c157 :: c158 :: c159 :: c160 :: c161 :: c162 :: c163 :: c164 :: c165 :: c166 :: c167 :: c168 :: c169 :: c170 :: c171 :: c172 :: c173 :: c174 :: c175 :: c176 :: c177 :: c178 :: c179 :: c180 :: c181 :: c182 :: c183 :: c184 :: c185 :: c186 :: c187 :: c188 :: c189 :: c190 :: c191 :: c192 :: c193 :: c194 :: c195 :: c196 :: c197 :: c198 :: c199 :: c200 :: c201 :: c202 :: c203 :: c204 :: c205 :: c206 :: c207 :: c208 :: c209 :: c210 :: c211 :: c212 :: c213 :: c214 :: c215 :: c216 :: c217 :: c218 :: c219 :: c220 :: c221 :: c222 :: c223 :: c224 :: c225 :: c226 :: c227 :: c228 :: c229 :: c230 :: c231 :: c232 :: c233 :: c234 :: c235 :: c236 :: c237 :: c238 :: c239 :: c240 :: c241 :: c242 :: c243 :: c244 :: c245 :: c246 :: c247 :: c248 :: c249 :: c250 :: c251 :: c252 :: c253 :: c254 :: c255 :: c256 :: c257 :: c258 :: c259 :: c260 :: c261 :: c262 :: c263 :: c264 :: c265 :: c266 :: c267 :: c268 :: c269 :: c270 :: c271 :: c272 :: c273 :: c274 :: c275 :: c276 :: c277 :: c278 :: c279 :: []), []⟩ (Wd W (.cells (cv .u32 h) 78 (0, 0) :: g) d) := by
  conv => arg 2; whnf
  go_loopw [16, 17] (fun o i wr => ∃ (k d : Nat) (g : List Obj), k ≤ 8 ∧ i = .int .i64 k ∧ o = .string (mkS (outS h k)) ∧ wr = Wd W (.cells (cv .u32 h) 78 (0, 0) :: g) d) (fun _ i _ => 8 - (intOf i).toNat)
  case atStart => exact ⟨0, _, _, by omega, rfl, rfl, rfl⟩
  case round =>
    obtain ⟨k, d, g, hk, rfl, rfl, rfl⟩ := hrel
    by_cases hk8 : k < 8
    · have hki : (k : Int) < 8 := by omega
      obtain ⟨y, hy⟩ : ∃ y, gi h k = y := ⟨_, rfl⟩
      have e24 := w8s y 24
      have e16 := w8s y 16
      have e8 := w8s y 8
      have e0 := w8 y
      have HW4 : Hid (outS h k ++ [byteOf y 24, byteOf y 16, byteOf y 8, y % 256] = outS h (k + 1)) := Lib.hid (by rw [← outS_succ, wordF, hy])
      generalize byteOf y 24 = y1 at *
      generalize byteOf y 16 = y2 at *
      generalize byteOf y 8 = y3 at *
      generalize y % 256 = y4 at *
      have hadd : ∀ W, (Op.stringOp .add (mkS (outS h k)) (mkS [y1, y2, y3, y4])).run Tryz.prog W = .ok (.string (mkS (outS h (k + 1)))) W := fun W => by
        rw [mkS_add _ _ (by rw [outS_length]; simp; omega), HW4.out]
      go_wp2
      refine wp_region_drew0 (v := .string (mkS (outS h k))) 20 (by kernel_rfl) (by kernel_rfl) (fun c a w hh => hp c a w _ _ hh) (Or.inl ⟨rfl, fun w => rfl⟩) ?_
      simp only [List.take_succ_cons, List.take_zero, List.drop_succ_cons, List.drop_zero, Nat.reduceSub, Act.put]
      go_simp
      repeat (go_big_quiet_step (fail))
      refine wpQuiet_nil ?_
      intro eR
      go_wp2
      go_roundw
      case rel => exact ⟨k + 1, _, _, by omega, by go_num, rfl, rfl⟩
      case measure => simp [intOf]; omega
    · obtain rfl : k = 8 := by omega
      go_wp2
      exact hexit _ _ _ _ _ _ _ _ _ _ _ _ _ _ _ _ _ _ _ _ _ _ _ _ _ _ _ _ _ _
end Go.Proofs.YtbiadmhomadflaaGreatDoor.Sm
namespace Go.Proofs.YtbiadmhomadflaaGreatDoor.Sm
open Go.RowKit Go.Own
attribute [local go_sem] ag120 ag122 ag76 ag75 ag5 ag3 cs120 cs122 cs76 cs75 cs5 cs3 sz120 sz122 sz76 sz75 sz5 sz3 isa75 isa5 isa3 z120 z76 ag78 cs78 sz78 z78 bu78 bu78s bs4 bs128 bs0 bs1
attribute [local go_sem ↓] shr_i64
attribute [-go_sem] run_string_add_if
attribute [local go_sem] bif32
theorem Wd_split (w : World) (l m : List Obj) (d : Nat) : Wd w (l ++ m) d = Wd (Wd w l d) m 0 := by rw [Wd_wd, Nat.add_zero]
set_option maxRecDepth 1000000 in
set_option maxHeartbeats 4000000 in
theorem main_loop (W : World) (S S1 : List Nat) (sb rb ML N d : Nat) (g : List Obj) (tS : TypeId) (fS : Nat × Nat) (HMN : Hid (64 * N = ML)) (hMLb : ML ≤ 1099511627776) (HTS : Hid (S1.take ML = S)) (hleS : ML ≤ S1.length)
    (hS8 : Hid (B8 S)) (HSB : Hid (blk W sb = some (.cells (cv .u8 S1) tS fS))) (HRB : Hid (blk W rb = some (.cells (cv .u32 rootsL) 76 (0, 0))))
    (c0 c1 c2 c4 c5 c9 c10 c11 c12 c13 c14 c15 c16 c17 c18 c19 c20 c21 c22 c23 c24 c25 c26 c27 c28 c29 c30 c31 c32 c33 c34 c35 c36 c37 c38 c39 c40 c41 c42 c43 c44 c45 c46 c47 c48 c49 c50 c51 c52 c53 c54 c55 c56 c57 c58 c59 c60 c61 c62 c63 c64 c65 c66 c67 c68 c69 c70 c71 c72 c73 c74 c75 c76 c77 c78 c79 c80 c81 c82 c83 c84 c85 c86 c87 c88 c89 c90 c91 c92 c93 c94 c95 c96 c97 c98 c99 c100 c101 c102 c103 c104 c105 c106 c107 c108 c109 c110 c111 c112 c113 c114 c115 c116 c117 c118 c119 c120 c121 c122 c123 c124 c125 c126 c127 c128 c129 c130 c131 c132 c133 c134 c135 c136 c137 c138 c139 c140 c141 c142 c143 c144 c145 c146 c147 c148 c149 c150 c151 c152 c153 c154 c155 c156 c157 c158 c159 c160 c161 c162 c163 c164 c165 c166 c167 c168 c169 c170 c171 c172 c173 c174 c175 c176 c177 c178 c179 c180 c181 c182 c183 c184 c185 c186 c187 c188 c189 c190 c191 c192 c193 c194 c195 c196 c197 c198 c199 c200 c201 c202 c203 c204 c205 c206 c207 c208 c209 c210 c211 c212 c213 c214 c215 c216 c217 c218 c219 c220 c221 c222 c223 c224 c225 c226 c227 c228 c229 c230 c231 c232 c233 c234 c235 c236 c237 c238 c239 c240 c241 c242 c243 c244 c245 c246 c247 c248 c249 c250 c251 c252 c253 c254 c255 c256 c257 c258 c259 c260 c261 c262 c263 c264 c265 c266 c267 c268 c269 c270 c271 c272 c273 c274 c275 c276 c277 c278 c279 : Value) (Q0 : Exit → Act → World → Prop)
    (hexit : ∀ (u8 u9 u10 u11 u12 u13 u14 u15 u48 u49 u50 u51 u52 u53 u54 u55 u56 u57 u58 u59 u60 u61 u62 u63 u64 u65 u66 u67 u68 u69 u70 u71 u72 u73 u74 u75 u76 u77 u78 u79 u80 u81 u82 u83 u84 u85 u86 u87 u88 u89 u90 u91 u92 u93 u94 u95 u96 u97 u98 u99 u100 u101 u102 u103 u104 u105 u106 u107 u108 u109 u110 u111 u112 u113 u114 u115 u116 u117 u118 u119 u120 u121 u122 u123 u124 u125 u126 u127 u128 u129 u130 u131 u132 u133 u134 u135 u136 u137 u138 u139 u140 u141 u142 u143 u144 u145 u146 u147 u148 u149 u150 u151 u152 u153 u154 u155 u156 u157 u158 u159 u160 u161 u162 u163 u164 u165 u166 u167 u168 u169 u170 u171 u172 u173 u174 u175 u176 u177 u178 u179 u180 u181 u182 u183 u184 u185 u186 u187 u188 u189 u190 u191 u192 u193 u194 u195 u196 u197 u198 u199 u200 u201 u202 u203 u204 u205 u206 u207 u208 u209 u210 u211 u212 u213 u214 u215 u216 u217 u218 u219 u220 u221 u222 u223 u224 u225 u226 u227 u228 u229 u230 u231 u232 u233 u234 u235 u236 u237 u238 u239 u240 u241 u242 u243 u244 u245 u246 u247 u248 u249 u250 u251 : Value) (g : List Obj) (d : Nat), Q0 (.exit 4) ⟨List.toArray (c0 :: c1 :: c2 :: .slice (some ⟨sb, 0, none⟩) ML S1.length :: c4 :: c5 :: .pointer (some ⟨rb, 0, none⟩) :: .pointer (some ⟨W.heap.size, 0, none⟩) :: u8 :: u9 :: u10 :: u11 :: u12 :: u13 :: u14 :: u15 :: c16 :: c17 :: c18 :: c19 :: c20 :: c21 :: c22 :: c23 :: c24 :: c25 :: c26 :: c27 :: c28 :: c29 :: c30 :: c31 :: c32 :: c33 :: c34 :: c35 :: c36 :: c37 :: c38 :: c39 :: c40 :: c41 :: c42 :: c43 :: c44 :: c45 :: c46 :: c47 :: u48 :: u49 :: u50 :: u51 :: u52 :: u53 :: u54 :: u55 :: u56 :: u57 :: u58 :: u59 :: u60 :: u61 :: u62 :: u63 :: u64 :: u65 :: u66 :: u67 :: u68 :: u69 :: u70 :: u71 :: u72 :: u73 :: u74 :: u75 :: u76 :: u77 :: u78 :: u79 :: u80 :: u81 :: u82 :: u83 :: u84 :: u85 :: u86 :: u87 :: u88 :: u89 :: u90 :: u91 :: u92 :: u93 :: u94 :: u95 :: u96 :: u97 :: u98 :: u99 :: u100 :: u101 :: u102 :: u103 :: u104 :: u105 :: u106 :: u107 :: u108 :: u109 :: u110 :: u111 :: u112 :: u113 :: u114 :: u115 :: u116 :: u117 :: u118 :: u119 :: u120 :: u121 :: u122 :: u123 :: u124 :: u125 :: u126 :: u127 :: u128 :: u129 :: u130 :: u131 :: u132 :: u133 :: u134 :: u135 :: u136 :: u137 :: u138 :: u139 :: u140 :: u141 :: u142 :: u143 :: u144 :: u145 :: u146 :: u147 :: u148 :: u149 :: u150 :: u151 :: u152 :: u153 :: u154 :: u155 :: u156 :: u157 :: u158 :: u159 :: u160 :: u161 :: u162 :: u163 :: u164 :: u165 :: u166 :: u167 :: u168 :: u169 :: u170 :: u171 :: u172 :: u173 :: u174 :: u175 :: u176 :: u177 :: u178 :: u179 :: u180 :: u181 :: u182 :: u183 :: u184 :: u185 :: u186 :: u187 :: u188 :: u189 :: u190 :: u191 :: u192 :: u193 :: u194 :: u195 :: u196 :: u197 :: u198 :: u199 :: u200 :: u201 :: u202 :: u203 :: u204 :: u205 :: u206 :: u207 :: u208 :: u209 :: u210 :: u211 :: u212 :: u213 :: u214 :: u215 :: u216 :: u217 :: u218 :: u219 :: u220 :: u221 :: u222 :: u223 :: u224 :: u225 :: u226 :: u227 :: u228 :: u229 :: u230 :: u231 :: u232 :: u233 :: u234 :: u235 :: u236 :: u237 :: u238 :: u239 :: u240 :: u241 :: u242 :: u243 :: u244 :: u245 :: u246 :: u247 :: u248 :: u249 :: u250 :: u251 :: c252 :: c253 :: c254 :: c255 :: c256 :: c257 :: c258 :: c259 :: c260 :: c261 :: c262 :: c263 :: c264 :: c265 :: c266 :: c267 :: c268 :: c269 :: c270 :: c271 :: c272 :: c273 :: c274 :: c275 :: c276 :: c277 :: c278 :: c279 :: []), []⟩ (Wd W (.cells (cv .u32 (chain S N)) 78 (0, 0) :: g) d)) :
    (ref12 2).wp Tryz.prog Q0 ⟨List.toArray (c0 :: c1 :: c2 :: .slice (some ⟨sb, 0, none⟩) ML S1.length :: c4 :: c5 :: .pointer (some ⟨rb, 0, none⟩) :: .pointer (some ⟨W.heap.size, 0, none⟩) :: .int .i64 0 :: c9 :: c10 :: c11 :: c12 :: c13 :: c14 :: c15 :: c16 :: c17 :: c18 :: c19 :: c20 :: c21 :: c22 :: c23 :: c24 :: c25 :: c26 :: c27 :: c28 :: c29 :: c30 :: c31 :: c32 :: c33 :: c34 :: c35 :: c36 :: c37 :: c38 :: c39 :: c40 :: c41 :: c42 :: c43 :: c44 :: c45 :: c46 :: c47 :: c48 :: c49 :: c50 :: c51 :: c52 :: c53 :: c54 :: c55 :: c56 :: c57 :: c58 :: c59 :: c60 :: c61 :: c62 :: c63 :: c64 :: c65 :: c66 :: c67 :: c68 :: c69 :: c70 :: c71 :: c72 :: c73 :: c74 :: c75 :: c76 :: c77 :: c78 :: c79 :: c80 :: c81 :: c82 :: c83 :: c84 :: c85 :: c86 :: c87 :: c88 :: c89 :: c90 :: c91 :: c92 :: c93 :: c94 :: c95 :: c96 :: c97 :: c98 :: c99 :: c100 :: c101 :: c102 :: c103 :: c104 :: c105 :: c106 :: c107 :: c108 :: c109 :: c110 :: c111 :: c112 :: c113 :: c114 :: c115 :: c116 :: c117 :: c118 :: c119 :: c120 :: c121 :: c122 :: c123 :: c124 :: c125 :: c126 :: c127 :: c128 :: c129 :: c130 :: c131 :: c132 :: c133 :: c134 :: c135 :: c136 :: c137 :: c138 :: c139 :: c140 :: c141 :: c142 :: c143 :: c144 :: c145 :: c146 :: c147 :: c148 :: c149 :: c150 :: c151 :: c152 :: c153 :: c154 :: c155 :: c156 :: c157 :: c158 :: c159 :: c160 :: c161 :: c162 :: c163 :: c164 :: c165 :: c166 :: c167 :: c168 :: c169 :: c170 :: c171 :: c172 :: c173 :: c174 :: c175 :: c176 :: c177 :: c178 :: c179 :: c180 :: c181 :: c182 :: c183 :: c184 :: c185 :: c186 :: c187 :: c188 :: c189 :: c190 :: c191 :: c192 :: c193 :: c194 :: c195 :: c196 :: c197 :: c198 :: c199 :: c200 :: c201 :: c202 :: c203 :: c204 :: c205 :: c206 :: c207 :: c208 :: c209 :: c210 :: c211 :: c212 :: c213 :: c214 :: c215 :: c216 :: c217 :: c218 :: c219 :: c220 :: c221 :: c222 :: c223 :: c224 :: c225 :: c226 :: c227 :: c228 :: c229 :: c230 :: c231 :: c232 :: c233 :: c234 :: c235 :: c236 :: c237 :: c238 :: c239 :: c240 :: c241 :: c242 :: c243 :: c244 :: c245 :: c246 :: c247 :: c248 :: c249 :: c250 :: c251 :: c252 :: c253 :: c254 :: c255 :: c256 :: c257 :: c258 :: c259 :: c260 :: c261 :: c262 :: c263 :: c264 :: c265 :: c266 :: c267 :: c268 :: c269 :: c270 :: c271 :: c272 :: c273 :: c274 :: c275 :: c276 :: c277 :: c278 :: c279 :: []), []⟩ (Wd W (.cells (cv .u32 startL) 78 (0, 0) :: g) d) := by
  conv => arg 2; whnf
  go_loopw [8] (fun i wr => ∃ (b d : Nat) (g : List Obj), b ≤ N ∧ i = .int .i64 (64 * (b : Int)) ∧ wr = Wd W (.cells (cv .u32 (chain S b)) 78 (0, 0) :: g) d) (fun i _ => ML - (intOf i).toNat)
  case atStart => exact ⟨0, _, _, by omega, rfl, rfl⟩
  case round =>
    obtain ⟨b, d, g, hb, rfl, rfl⟩ := hrel
    have hcl := chain_length S b
    by_cases hbN : b < N
    · have hbi : 64 * (b : Int) < (ML : Int) := by have := HMN.out; omega
      have HCS : Hid (chain S (b + 1) = plusL (chain S b) (rd (widenL (blkB S b)) (chain S b) 64)) := Lib.hid rfl
      obtain ⟨h, hh⟩ : ∃ h, chain S b = h := ⟨_, rfl⟩
      rw [hh] at hcl HCS ⊢
      clear hh
      obtain ⟨bl, hbl⟩ : ∃ bl, blkB S b = bl := ⟨_, rfl⟩
      rw [hbl] at HCS
      have HBL := Lib.hid hbl
      clear hbl
      have hb8 : B8 bl := by rw [← HBL.out]; exact (hS8.out.drop _).take _
      have HWL : Hid (rwd bl 64 = widenL bl) := Lib.hid (rwd_widen bl hb8)
      have hWll : Hid ((widenL bl).length = 64) := Lib.hid (by rw [← HWL.out]; exact rwd_length bl 64 (Nat.le_refl _))
      clear hb8
      have hHB : Hid (∀ d, blk (Wd W (.cells (cv .u32 h) 78 (0, 0) :: g) d) W.heap.size = some (.cells (cv .u32 h) 78 (0, 0))) := Lib.hid fun d => by rw [blk_at0]; rfl
      go_wp2
      rw [← List.cons_append, Wd_split]
      obtain ⟨W2, hW2⟩ : ∃ W2, Wd W (.cells (cv .u32 h) 78 (0, 0) :: g) d = W2 := ⟨_, rfl⟩
      have hs2 : W.heap.size + (g.length + 1) = W2.heap.size := by rw [← hW2, Wd_size]; rfl
      have HSB2 : Hid (blk W2 sb = some (.cells (cv .u8 S1) tS fS)) := Lib.hid (hW2 ▸ blk_old _ _ _ _ HSB.out)
      have HRB2 : Hid (blk W2 rb = some (.cells (cv .u32 rootsL) 76 (0, 0))) := Lib.hid (hW2 ▸ blk_old _ _ _ _ HRB.out)
      have hH2 : Hid (∀ l e, blk (Wd W2 l e) W.heap.size = some (.cells (cv .u32 h) 78 (0, 0))) := Lib.hid fun l e => blk_old _ _ _ _ (by rw [← hW2]; exact hHB.out _)
      rw [hs2, hW2]
      have HW2 := Lib.hid hW2
      have HS2 := Lib.hid hs2
      clear hW2 hs2 hHB
      refine words_loop W2 S S1 bl sb ML N b 0 tS fS HMN hbN hMLb HTS hleS hS8 HBL HSB2 _ _ _ _ _ _ _ _ _ _ _ _ _ _ _ _ _ _ _ _ _ _ _ _ _ _ _ _ _ _ _ _ _ _ _ _ _ _ _ _ _ _ _ _ _ _ _ _ _ _ _ _ _ _ _ _ _ _ _ _ _ _ _ _ _ _ _ _ _ _ _ _ _ _ _ _ _ _ _ _ _ _ _ _ _ _ _ _ _ _ _ _ _ _ _ _ _ _ _ _ _ _ _ _ _ _ _ _ _ _ _ _ _ _ _ _ _ _ _ _ _ _ _ _ _ _ _ _ _ _ _ _ _ _ _ _ _ _ _ _ _ _ _ _ _ _ _ _ _ _ _ _ _ _ _ _ _ _ _ _ _ _ _ _ _ _ _ _ _ _ _ _ _ _ _ _ _ _ _ _ _ _ _ _ _ _ _ _ _ _ _ _ _ _ _ _ _ _ _ _ _ _ _ _ _ _ _ _ _ _ _ _ _ _ _ _ _ _ _ _ _ _ _ _ _ _ _ _ _ _ _ _ _ _ _ _ _ _ _ _ _ _ _ _ _ _ _ _ _ _ _ _ _ _ _ _ _ _ _ _ _ _ _ _ _ _ _ _ _ _ _ _ _ _ _ _ _ ?_
      intro _ _ _ _ _ _ _ _ _ _ _ _ _ _ _ _ _ _ _ _ _ _ _ _ _ _ _ _ _ _ _ _ _ _ _ _ _ _ _ _ _ _ _ _ _ _ _ _ _ _ _ _ _ _ _ _ _ _ _ _ _ _ _ _ _ _ _ _ _ _ _ _ _ _ _ _ _ _ _ _ _ _ _ _ _ _ _ _ _ _ _ _ _ _ _ _ _ d2
      rw [HWL.out]
      obtain ⟨Wl, hWl⟩ : ∃ Wl, widenL bl = Wl := ⟨_, rfl⟩
      rw [hWl] at HCS hWll ⊢
      clear hWl HWL
      have hWll' := hWll.out
      have hH2' := hH2.out
      go_wp2
      rw [show [Obj.cells (cv .u32 Wl) 76 (0, 0), Obj.cells (cv .u32 h) 78 (0, 0)] = [Obj.cells (cv .u32 Wl) 76 (0, 0)] ++ [Obj.cells (cv .u32 h) 78 (0, 0)] from rfl, Wd_split]
      obtain ⟨W3, hW3⟩ : ∃ W3, Wd W2 [Obj.cells (cv .u32 Wl) 76 (0, 0)] d2 = W3 := ⟨_, rfl⟩
      have hs3 : W2.heap.size + 1 = W3.heap.size := by rw [← hW3, Wd_size]; rfl
      have hRB3 : blk W3 rb = some (.cells (cv .u32 rootsL) 76 (0, 0)) := hW3 ▸ blk_old _ _ _ _ HRB2.out
      have hPW3 : blk W3 W2.heap.size = some (.cells (cv .u32 Wl) 76 (0, 0)) := by rw [← hW3, blk_at0]; rfl
      rw [hs3, hW3]
      have HW3 := Lib.hid hW3
      have HS3 := Lib.hid hs3
      clear hW3 hs3
      refine rounds_loop W3 h Wl rb W2.heap.size 0 hcl hWll' hRB3 hPW3 _ _ _ _ _ _ _ _ _ _ _ _ _ _ _ _ _ _ _ _ _ _ _ _ _ _ _ _ _ _ _ _ _ _ _ _ _ _ _ _ _ _ _ _ _ _ _ _ _ _ _ _ _ _ _ _ _ _ _ _ _ _ _ _ _ _ _ _ _ _ _ _ _ _ _ _ _ _ _ _ _ _ _ _ _ _ _ _ _ _ _ _ _ _ _ _ _ _ _ _ _ _ _ _ _ _ _ _ _ _ _ _ _ _ _ _ _ _ _ _ _ _ _ _ _ _ _ _ _ _ _ _ _ _ _ _ _ _ _ _ _ _ _ _ _ _ _ _ _ _ _ _ _ _ _ _ _ _ _ _ _ _ _ _ _ _ _ _ _ _ _ _ _ _ _ _ _ _ _ _ _ _ _ _ _ _ _ _ _ _ _ _ _ _ _ _ _ _ _ _ _ _ _ _ _ _ _ _ _ _ _ _ _ _ _ _ _ _ _ _ _ _ _ _ _ _ _ _ _ _ _ _ _ _ _ _ _ _ _ _ _ _ _ _ _ _ _ _ _ _ _ _ _ _ _ _ _ _ _ _ _ _ _ _ _ _ _ _ _ _ _ _ _ _ _ _ _ ?_
      intro _ _ _ _ _ _ _ _ _ _ _ _ _ _ _ _ _ _ _ _ _ _ _ _ _ _ _ _ _ _ _ _ _ _ _ _ _ _ _ _ _ _ _ _ _ _ _ _ _ _ _ _ _ _ _ _ _ _ _ _ _ _ _ _ _ _ _ _ _ _ _ _ _ _ _ _ _ _ _ _ _ _ _ _ _ _ _ _ _ _ _ d3
      obtain ⟨v, hv⟩ : ∃ v, rd Wl h 64 = v := ⟨_, rfl⟩
      have hvl : v.length = 8 := by rw [← hv]; exact rd_length Wl h hcl 64
      rw [hv] at HCS ⊢
      clear hv hRB3 hPW3
      have hWW : ∀ e, Wd W3 [Obj.cells (cv .u32 v) 78 (0, 0)] e = Wd W (Obj.cells (cv .u32 h) 78 (0, 0) :: (g ++ [Obj.cells (cv .u32 Wl) 76 (0, 0), Obj.cells (cv .u32 v) 78 (0, 0)])) (d + d2 + e) := fun e => by
        rw [← HW3.out, Wd_wd, ← HW2.out, Wd_wd, Nat.add_assoc]; rfl
      rw [hWW]
      have hpv : W3.heap.size = W.heap.size + ((g.length + 1) + 1) := by rw [← HS3.out, ← HS2.out]; rfl
      have hg : (g ++ [Obj.cells (cv .u32 Wl) 76 (0, 0), Obj.cells (cv .u32 v) 78 (0, 0)])[g.length + 1]? = some (.cells (cv .u32 v) 78 (0, 0)) := by
        rw [List.getElem?_append_right (by omega), Nat.add_sub_cancel_left]; rfl
      go_wp2
      refine adds_loop W h v _ (g.length + 1) W3.heap.size _ hcl hvl hpv hg _ _ _ _ _ _ _ _ _ _ _ _ _ _ _ _ _ _ _ _ _ _ _ _ _ _ _ _ _ _ _ _ _ _ _ _ _ _ _ _ _ _ _ _ _ _ _ _ _ _ _ _ _ _ _ _ _ _ _ _ _ _ _ _ _ _ _ _ _ _ _ _ _ _ _ _ _ _ _ _ _ _ _ _ _ _ _ _ _ _ _ _ _ _ _ _ _ _ _ _ _ _ _ _ _ _ _ _ _ _ _ _ _ _ _ _ _ _ _ _ _ _ _ _ _ _ _ _ _ _ _ _ _ _ _ _ _ _ _ _ _ _ _ _ _ _ _ _ _ _ _ _ _ _ _ _ _ _ _ _ _ _ _ _ _ _ _ _ _ _ _ _ _ _ _ _ _ _ _ _ _ _ _ _ _ _ _ _ _ _ _ _ _ _ _ _ _ _ _ _ _ _ _ _ _ _ _ _ _ _ _ _ _ _ _ _ _ _ _ _ _ _ _ _ _ _ _ _ _ _ _ _ _ _ _ _ _ _ _ _ _ _ _ _ _ _ _ _ _ _ _ _ _ _ _ _ _ _ _ _ _ _ _ _ _ _ _ _ _ _ _ _ _ _ _ _ _ _ ?_
      intro _ _ _ _ _ _ _ _ _ _ _ _ _ _ d4
      rw [← HCS.out]
      go_wp2
      go_roundw
      case rel => exact ⟨b + 1, _, _, by omega, by go_num, rfl⟩
      case measure => have := HMN.out; simp [intOf]; omega
    · obtain rfl : b = N := by omega
      have hbi : ¬ 64 * (b : Int) < (ML : Int) := by have := HMN.out; omega
      generalize chain S b = h at *
      go_wp2
      exact hexit _ _ _ _ _ _ _ _ _ _ _ _ _ _ _ _ _ _ _ _ _ _ _ _ _ _ _ _ _ _ _ _ _ _ _ _ _ _ _ _ _ _ _ _ _ _ _ _ _ _ _ _ _ _ _ _ _ _ _ _ _ _ _ _ _ _ _ _ _ _ _ _ _ _ _ _ _ _ _ _ _ _ _ _ _ _ _ _ _ _ _ _ _ _ _ _ _ _ _ _ _ _ _ _ _ _ _ _ _ _ _ _ _ _ _ _ _ _ _ _ _ _ _ _ _ _ _ _ _ _ _ _ _ _ _ _ _ _ _ _ _ _ _ _ _ _ _ _ _ _ _ _ _ _ _ _ _ _ _ _ _ _ _ _ _ _ _ _ _ _ _ _ _ _ _ _ _ _ _ _ _ _ _ _ _ _ _ _ _ _ _ _ _ _ _ _ _ _ _ _ _ _ _ _ _ _ _ _ _ _ _ _ _ _
end Go.Proofs.YtbiadmhomadflaaGreatDoor.Sm
namespace Go.Proofs.YtbiadmhomadflaaGreatDoor.Sm
open Go.RowKit Go.Own
attribute [local go_sem] ag120 ag122 ag76 ag75 ag5 ag3 cs120 cs122 cs76 cs75 cs5 cs3 sz120 sz122 sz76 sz75 sz5 sz3 isa75 isa5 isa3 z120 z76 ag78 cs78 sz78 z78 bu78 bu78s bs4 bs128 bs0 bs1
attribute [local go_sem ↓] shr_i64
attribute [-go_sem] run_string_add_if
attribute [local go_sem] bif32
set_option maxRecDepth 1000000 in
set_option maxHeartbeats 8000000 in
theorem refSum_any (t : ByteArray) (hb : t.size ≤ 1099511600000) (w : World) :
    Calls Tryz.prog 43 #[.string t] w fun e w' => e = .returned (.string (mkS (digL (bys t)))) ∧ Grows w w' := by
  obtain ⟨x, hx⟩ : ∃ x, bys t = x := ⟨_, rfl⟩
  obtain ⟨n, hn⟩ : ∃ n, x.length = n := ⟨_, rfl⟩
  have hnb : n ≤ 1099511600000 := by rw [← hn, ← hx, bys_length]; exact hb
  have HX := Lib.hid hx
  have HN := Lib.hid hn
  have hx8 := Lib.hid (show B8 x by rw [← hx]; exact B8.bys t)
  have hz63 : zerosN n ≤ 63 := by unfold zerosN; omega
  have hzn : Hid ((n + 1 + zerosN n) % 64 = 56) := Lib.hid (by unfold zerosN; omega)
  have hzl : Hid (∀ j, j < zerosN n → (n + 1 + j) % 64 ≠ 56) := Lib.hid (fun j hj => by unfold zerosN at hj; omega)
  have HE : Hid ((128 :: rep (zerosN n)) ++ (List.range 8).map (cntF n) = endL n) := Lib.hid rfl
  obtain ⟨z, hz⟩ : ∃ z, zerosN n = z := ⟨_, rfl⟩
  rw [hz] at hz63 hzn hzl HE
  have HZJ : Hid (zerosN n = z) := Lib.hid hz
  clear hb hn hx hz
  refine calls_wd ?_
  go_enter Tryz.func43, Tryz.ntmps43
  go_wp2_with (with_reducible refine stop_conv ?_)
  unfold Stop
  refine wpList_bytes rfl (.tmp 18) 9 56 5 rfl Tryz.underlying9 Tryz.underlying56 Tryz.underlying5 t rfl ?_
  intro v0 l0 d0 H0 _
  rw [HX.out] at H0
  obtain ⟨i0, S0, t0, f0, rfl, hi0, hf0, ht0, hle0⟩ := H0.out
  rw [HN.out] at H0 ⊢
  obtain ⟨m, hm⟩ : ∃ m : Nat, n * 8 = m := ⟨_, rfl⟩
  have em : 8 * (n : Int) = (m : Int) := by omega
  have HM := Lib.hid hm
  clear hm
  clear hi0 hf0 ht0 hle0
  go_wp2_with (at_builtin; refine stop ?_)
  unfold Stop
  refine wpList_app rfl (.tmp 23) (.tmp 24) 56 5 rfl br56 (.slice (some ⟨w.heap.size + i0, 0, none⟩) n S0.length) x rfl (Or.inr (H0.out.more _)) l0.length 0 1 1 rfl [128] 5 (0, 0) (end_at1 _ _) (show 0 + 1 ≤ 1 by decide) (by decide) (by rw [HN.out]; omega) ?_
  intro v1 l1 d1 H1 _
  clear H0
  rw [show List.take 1 (List.drop 0 [128]) = [128] from rfl] at H1
  have H1' : Hid (Has w l1 v1 (x ++ (128 :: rep 0))) := H1
  clear H1
  go_wp2
  go_loopw [3] (fun v wr => ∃ (j d : Nat) (l : List Obj), j ≤ z ∧ Hid (Has w l v (x ++ (128 :: rep j))) ∧ wr = Wd w l d) (fun v _ => match v with | .slice _ k _ => n + 1 + z - k | _ => 0)
  case atStart => exact ⟨0, d1, l1, by omega, H1', rfl⟩
  case round =>
    clear H1'
    obtain ⟨j, d, l, hj, HS, rfl⟩ := hrel
    have hsl : (x ++ (128 :: rep j)).length = n + 1 + j := by
      have := HN.out
      simp only [List.length_append, List.length_cons, rep_length]; omega
    obtain ⟨k, hk⟩ : ∃ k, n + 1 + j = k := ⟨_, rfl⟩
    rw [hk] at hsl
    obtain ⟨iv, Sv, tv, fv, rfl, hi, hf, ht, hle⟩ := HS.out
    rw [hsl] at HS ⊢
    clear hi hf ht hle
    by_cases hlt : j < z
    · have hne : (((k : Int) % 64) != 56) = true := by
        have := hzl.out j hlt
        rw [hk] at this
        rw [bne_iff_ne]; omega
      have HK := Lib.hid hk
      clear hk
      go_wp2_with (at_builtin; refine stop ?_)
      unfold Stop
      refine wpList_app rfl (.tmp 30) (.tmp 31) 56 5 rfl br56 (.slice (some ⟨w.heap.size + iv, 0, none⟩) k Sv.length) (x ++ (128 :: rep j)) rfl (Or.inr (HS.out.more _)) l.length 0 1 1 rfl [0] 5 (0, 0) (end_at1 _ _) (show 0 + 1 ≤ 1 by decide) (by decide) (by have := HK.out; rw [hsl]; omega) ?_
      intro v' l' d' H1 _
      rw [show List.take 1 (List.drop 0 [0]) = [0] from rfl, List.append_assoc, List.cons_append, rep_succ] at H1
      have hsl2 : (x ++ (128 :: rep (j + 1))).length = k + 1 := by
        have := HN.out
        have := HK.out
        simp only [List.length_append, List.length_cons, rep_length]; omega
      obtain ⟨i2, S2, t2, f2, rfl, h2i, h2f, h2t, h2l⟩ := H1.out
      rw [hsl2] at H1 ⊢
      clear h2i h2f h2t h2l
      go_wp2
      go_roundw
      case rel => exact ⟨j + 1, _, _, by omega, H1, rfl⟩
      case measure =>
        have := HK.out
        show n + 1 + z - (k + 1) < n + 1 + z - k
        omega
    · obtain rfl : j = z := by omega
      have hne : (((k : Int) % 64) != 56) = false := by
        have := hzn.out
        rw [hk] at this
        rw [bne_eq_false_iff_eq]; omega
      have HK := Lib.hid hk
      have hkm : n + 8 + j + 8 ≤ 1099511627776 := by omega
      have HNZ : Hid (n + 1 + j = k) := HK
      clear hk hlt hsl
      go_wp2
      go_loopw [3, 5] (fun v i wr => ∃ (q d : Nat) (l : List Obj), q ≤ 8 ∧ i = .int .i64 (7 - (q : Int)) ∧ Hid (Has w l v (x ++ (128 :: rep j) ++ (List.range q).map (cntF n))) ∧ wr = Wd w l d) (fun _ i _ => (match i with | .int _ y => (y + 1).toNat | _ => 0))
      case atStart => exact ⟨0, d, l, by omega, rfl, Lib.hid (by rw [List.range_zero, List.map_nil, List.append_nil]; exact HS.out), rfl⟩
      case round =>
        clear HS
        obtain ⟨q, d, l, hq, rfl, HS, rfl⟩ := hrel
        by_cases hq8 : q < 8
        · obtain ⟨iv, Sv, tv, fv, rfl, hi, hf, ht, hle⟩ := HS.out
          have hsl : (x ++ (128 :: rep j) ++ (List.range q).map (cntF n)).length = k + q := by
            have := HN.out
            have := HK.out
            simp only [List.length_append, List.length_cons, rep_length, List.length_map, List.length_range]; omega
          rw [hsl] at HS ⊢
          clear hi hf ht hle hsl
          have h7 : 0 ≤ 7 - (q : Int) := by omega
          obtain ⟨s8, hs8⟩ : ∃ s8 : Nat, 8 * (7 - q) = s8 := ⟨_, rfl⟩
          have e8 : 8 * (7 - (q : Int)) = (s8 : Int) := by omega
          have e8w : IntKind.u64.wrap (s8 : Int) = (s8 : Int) := by simp only [IntKind.wrap, IntKind.bits, IntKind.signed]; simp; omega
          have hs64 : s8 ≤ 64 := by omega
          have hcn : Hid (cntF n q = shr64 m s8 % 256) := Lib.hid (by unfold cntF; rw [HM.out, hs8])
          have hwb := wrap8 (shr64 m s8)
          obtain ⟨y, hy⟩ : ∃ y, shr64 m s8 % 256 = y := ⟨_, rfl⟩
          rw [hy] at hcn hwb
          clear hs8 hy
          have hq7 : 0 ≤ 7 - (q : Int) := by omega
          go_wp2_with (at_builtin; refine stop ?_)
          unfold Stop
          refine wpList_app rfl (.tmp 37) (.tmp 44) 56 5 rfl br56 (.slice (some ⟨w.heap.size + iv, 0, none⟩) (k + q) Sv.length) _ rfl (Or.inr (HS.out.more _)) l.length 0 1 1 rfl [y] 5 (0, 0) (end_at1 _ _) (show 0 + 1 ≤ 1 by decide) (by decide) (by
            have := HN.out
            have := HK.out
            simp only [List.length_append, List.length_cons, rep_length, List.length_map, List.length_range]; omega) ?_
          intro v' l' d' H1 _
          rw [show List.take 1 (List.drop 0 [y]) = [y] from rfl, ← hcn.out, List.append_assoc, cnt_succ] at H1
          have H2 := Lib.hid H1.out
          clear H1
          go_wp2
          go_roundw
          case rel => exact ⟨q + 1, _, _, by omega, congrArg (Value.int IntKind.i64) (by omega), H2, rfl⟩
          case measure => simp; omega
        · obtain rfl : q = 8 := by omega
          have HS8 : Hid (Has w l u3 (x ++ endL n)) := Lib.hid (by rw [← HE.out, ← List.append_assoc]; exact HS.out)
          clear HS hq8
          go_wp2_with fail
          refine (constants_any _).mono ?_
          rintro e w' ⟨rfl, g, d', rfl⟩
          rw [Wd_wd]
          have hrl := rootsL_length
          have hstl := startL_length
          go_wp2
          obtain ⟨iS, S1, tS, fS, rfl, hiS, _, htS, hleS⟩ := HS8.out
          obtain ⟨S, hS⟩ : ∃ S, x ++ endL n = S := ⟨_, rfl⟩
          obtain ⟨N, hN⟩ : ∃ N, S.length = 64 * N := by
            refine ⟨(n + 1 + j + 8) / 64, ?_⟩
            rw [← hS, List.length_append, HN.out, endL_length]
            have := hzn.out
            have hzj : zerosN n = j := HZJ.out
            rw [hzj]; omega
          obtain ⟨ML, hML⟩ : ∃ ML, 64 * N = ML := ⟨_, rfl⟩
          have hMLb : ML ≤ 1099511627776 := by
            rw [← hML, ← hN, ← hS, List.length_append, HN.out, endL_length]
            have hzj : zerosN n = j := HZJ.out
            omega
          have HD : Hid (digL x = textL (chain S N)) := Lib.hid (by
            unfold digL
            rw [HN.out, hS, hN, Nat.mul_div_cancel_left _ (by decide)])
          have hS8 : Hid (B8 S) := Lib.hid (by rw [← hS]; exact hx8.out.append (endL_B8 n))
          rw [hS, hN, hML] at htS hleS ⊢
          have HTS := Lib.hid htS
          have HMN := Lib.hid hML
          obtain ⟨sb, hsb⟩ : ∃ sb, w.heap.size + iS = sb := ⟨_, rfl⟩
          obtain ⟨rb, hrb⟩ : ∃ rb, w.heap.size + (l.length + g.length) = rb := ⟨_, rfl⟩
          obtain ⟨W, hW⟩ : ∃ W, Wd w (l ++ (g ++ [.cells (cv .u32 rootsL) 76 (0, 0)])) (d + d') = W := ⟨_, rfl⟩
          have hWh : w.heap.size + (l.length + (g.length + 1)) = W.heap.size := by rw [← hW, Wd_size]; simp
          have hWW : Wd w (l ++ (g ++ [.cells (cv .u32 rootsL) 76 (0, 0), .cells (cv .u32 startL) 78 (0, 0)])) (d + d') = Wd W [.cells (cv .u32 startL) 78 (0, 0)] 0 := by
            rw [← hW, Wd_wd]; simp
          have HSB : Hid (blk W sb = some (.cells (cv .u8 S1) tS fS)) := Lib.hid (by
            rw [← hW, ← hsb, blk_at, List.getElem?_append_left (List.getElem?_eq_some_iff.1 hiS).1]; exact hiS)
          have HRB : Hid (blk W rb = some (.cells (cv .u32 rootsL) 76 (0, 0))) := Lib.hid (by
            rw [← hW, ← hrb, blk_at, ← List.append_assoc, ← List.length_append]; exact end_at1 _ _)
          have HGW : Hid (Grows w W) := Lib.hid (hW ▸ Grows.of _ _ _)
          rw [hsb, hrb, hWh, hWW]
          clear hsb hrb hWh hWW hW hiS htS hS hN hML HS8 em HM hkm HNZ HK hnb hrl hstl
          refine main_loop W S S1 sb rb ML N 0 [] tS fS HMN hMLb HTS hleS hS8 HSB HRB _ _ _ _ _ _ _ _ _ _ _ _ _ _ _ _ _ _ _ _ _ _ _ _ _ _ _ _ _ _ _ _ _ _ _ _ _ _ _ _ _ _ _ _ _ _ _ _ _ _ _ _ _ _ _ _ _ _ _ _ _ _ _ _ _ _ _ _ _ _ _ _ _ _ _ _ _ _ _ _ _ _ _ _ _ _ _ _ _ _ _ _ _ _ _ _ _ _ _ _ _ _ _ _ _ _ _ _ _ _ _ _ _ _ _ _ _ _ _ _ _ _ _ _ _ _ _ _ _ _ _ _ _ _ _ _ _ _ _ _ _ _ _ _ _ _ _ _ _ _ _ _ _ _ _ _ _ _ _ _ _ _ _ _ _ _ _ _ _ _ _ _ _ _ _ _ _ _ _ _ _ _ _ _ _ _ _ _ _ _ _ _ _ _ _ _ _ _ _ _ _ _ _ _ _ _ _ _ _ _ _ _ _ _ _ _ _ _ _ _ _ _ _ _ _ _ _ _ _ _ _ _ _ _ _ _ _ _ _ _ _ _ _ _ _ _ _ _ _ _ _ _ _ _ _ _ _ _ _ _ _ _ _ _ _ _ _ _ _ _ _ _ _ _ _ _ _ ?_
          intro _ _ _ _ _ _ _ _ _ _ _ _ _ _ _ _ _ _ _ _ _ _ _ _ _ _ _ _ _ _ _ _ _ _ _ _ _ _ _ _ _ _ _ _ _ _ _ _ _ _ _ _ _ _ _ _ _ _ _ _ _ _ _ _ _ _ _ _ _ _ _ _ _ _ _ _ _ _ _ _ _ _ _ _ _ _ _ _ _ _ _ _ _ _ _ _ _ _ _ _ _ _ _ _ _ _ _ _ _ _ _ _ _ _ _ _ _ _ _ _ _ _ _ _ _ _ _ _ _ _ _ _ _ _ _ _ _ _ _ _ _ _ _ _ _ _ _ _ _ _ _ _ _ _ _ _ _ _ _ _ _ _ _ _ _ _ _ _ _ _ _ _ _ _ _ _ _ _ _ _ _ _ _ _ _ _ _ _ _ _ _ _ _ _ _ _ _ _ _ _ _ _ _ _ _ _ _ _ _ _ _ _ gm dm
          obtain ⟨h, hh⟩ : ∃ h, chain S N = h := ⟨_, rfl⟩
          have hcl : h.length = 8 := by rw [← hh]; exact chain_length S N
          rw [hh] at HD ⊢
          clear hh
          go_wp2
          refine text_loop W h gm _ hcl _ _ _ _ _ _ _ _ _ _ _ _ _ _ _ _ _ _ _ _ _ _ _ _ _ _ _ _ _ _ _ _ _ _ _ _ _ _ _ _ _ _ _ _ _ _ _ _ _ _ _ _ _ _ _ _ _ _ _ _ _ _ _ _ _ _ _ _ _ _ _ _ _ _ _ _ _ _ _ _ _ _ _ _ _ _ _ _ _ _ _ _ _ _ _ _ _ _ _ _ _ _ _ _ _ _ _ _ _ _ _ _ _ _ _ _ _ _ _ _ _ _ _ _ _ _ _ _ _ _ _ _ _ _ _ _ _ _ _ _ _ _ _ _ _ _ _ _ _ _ _ _ _ _ _ _ _ _ _ _ _ _ _ _ _ _ _ _ _ _ _ _ _ _ _ _ _ _ _ _ _ _ _ _ _ _ _ _ _ _ _ _ _ _ _ _ _ _ _ _ _ _ _ _ _ _ _ _ _ _ _ _ _ _ _ _ _ _ _ _ _ _ _ _ _ _ _ _ _ _ _ _ _ _ _ _ _ _ _ _ _ _ _ _ _ _ _ _ _ _ _ _ _ _ _ _ _ _ _ _ _ _ _ _ _ _ _ _ _ _ _ _ _ _ _ _ _ _ (fun c a w o v hh => by cases o <;> exact hh) ?_
          intro _ _ _ _ _ _ _ _ _ _ _ _ _ _ _ _ _ _ _ _ _ _ _ _ _ _ _ _ gt dt
          go_wp2
          go_ret
          exact ⟨by rw [HX.out, HD.out]; rfl, HGW.out.trans (Grows.of _ _ _)⟩
end Go.Proofs.YtbiadmhomadflaaGreatDoor.Sm

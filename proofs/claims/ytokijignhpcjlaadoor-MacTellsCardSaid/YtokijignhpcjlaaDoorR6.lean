/- The loops of the document's digest, each on its own: whatever stands in the other slots. -/
import Derived.Test.YtokijignhpcjlaaDoorR4
namespace Go.Proofs.YtokijignhpcjlaaDoor
open Go.RowKit Go.Own
attribute [local go_sem] ag47 ag50 ag56 ag45 ag5 ag3 cs47 cs50 cs56 cs45 cs5 cs3 sz47 sz50 sz56 sz45 sz5 sz3 isa45 isa5 isa3 z47 z56 ag46 cs46 sz46 z46 bu46 bu46s bs4 bs128 bs0 bs1
attribute [local go_sem ↓] shr_i64
attribute [-go_sem] run_string_add_if
attribute [local go_sem] bif32
set_option maxRecDepth 1000000 in
set_option maxHeartbeats 4000000 in
theorem rounds_loop (W : World) (h Wl : List Nat) (rb pw d : Nat) (hcl : h.length = 8) (hWl : Wl.length = 64) (hRB : blk W rb = some (.cells (cv .u32 rootsL) 56 (0, 0))) (hPW : blk W pw = some (.cells (cv .u32 Wl) 56 (0, 0)))
    (c0 c1 c2 c3 c4 c5 c7 c8 c10 c13 c14 c15 c16 c17 c18 c19 c20 c21 c22 c23 c24 c25 c26 c27 c28 c29 c30 c31 c32 c33 c34 c35 c36 c37 c38 c39 c40 c41 c42 c43 c44 c45 c46 c47 c48 c49 c50 c51 c52 c53 c54 c55 c56 c57 c58 c59 c60 c61 c62 c63 c64 c65 c66 c67 c68 c69 c70 c71 c72 c73 c74 c75 c76 c77 c78 c79 c80 c81 c82 c83 c84 c85 c86 c87 c88 c89 c90 c91 c92 c93 c94 c95 c96 c97 c98 c99 c100 c101 c102 c103 c104 c105 c106 c107 c108 c109 c110 c111 c112 c113 c114 c115 c116 c117 c118 c119 c120 c121 c122 c123 c124 c125 c126 c127 c128 c129 c130 c131 c132 c133 c134 c135 c136 c137 c138 c139 c140 c141 c142 c143 c144 c145 c146 c147 c148 c149 c150 c151 c152 c153 c154 c155 c156 c157 c158 c159 c160 c161 c162 c163 c164 c165 c166 c167 c168 c169 c170 c171 c172 c173 c174 c175 c176 c177 c178 c179 c180 c181 c182 c183 c184 c185 c186 c187 c188 c189 c190 c191 c192 c193 c194 c195 c196 c197 c198 c199 c200 c201 c202 c203 c204 c205 c206 c207 c208 c209 c210 c211 c212 c213 c214 c215 c216 c217 c218 c219 c220 c221 c222 c223 c224 c225 c226 c227 c228 c229 c230 c231 c232 c233 c234 c235 c236 c237 c238 c239 c240 c241 c242 c243 c244 c245 c246 c247 c248 c249 c250 c251 c252 c253 c254 c255 c256 c257 c258 c259 c260 c261 c262 c263 c264 c265 c266 c267 c268 c269 c270 c271 c272 c273 c274 c275 c276 c277 c278 c279 : Value) (Q0 : Exit → Act → World → Prop)
    (hexit : ∀ (u12 u13 u14 u151 u152 u153 u154 u155 u156 u157 u158 u159 u160 u161 u162 u163 u164 u165 u166 u167 u168 u169 u170 u171 u172 u173 u174 u175 u176 u177 u178 u179 u180 u181 u182 u183 u184 u185 u186 u187 u188 u189 u190 u191 u192 u193 u194 u195 u196 u197 u198 u199 u200 u201 u202 u203 u204 u205 u206 u207 u208 u209 u210 u211 u212 u213 u214 u215 u216 u217 u218 u219 u220 u221 u222 u223 u224 u225 u226 u227 u228 u229 u230 u231 u232 u233 u234 u235 u236 u237 u238 : Value) (d : Nat), Q0 (.exit 8) ⟨List.toArray (c0 :: c1 :: c2 :: c3 :: c4 :: c5 :: .pointer (some ⟨rb, 0, none⟩) :: c7 :: c8 :: .pointer (some ⟨pw, 0, none⟩) :: c10 :: .pointer (some ⟨W.heap.size, 0, none⟩) :: u12 :: u13 :: u14 :: c15 :: c16 :: c17 :: c18 :: c19 :: c20 :: c21 :: c22 :: c23 :: c24 :: c25 :: c26 :: c27 :: c28 :: c29 :: c30 :: c31 :: c32 :: c33 :: c34 :: c35 :: c36 :: c37 :: c38 :: c39 :: c40 :: c41 :: c42 :: c43 :: c44 :: c45 :: c46 :: c47 :: c48 :: c49 :: c50 :: c51 :: c52 :: c53 :: c54 :: c55 :: c56 :: c57 :: c58 :: c59 :: c60 :: c61 :: c62 :: c63 :: c64 :: c65 :: c66 :: c67 :: c68 :: c69 :: c70 :: c71 :: c72 :: c73 :: c74 :: c75 :: c76 :: c77 :: c78 :: c79 :: c80 :: c81 :: c82 :: c83 :: c84 :: c85 :: c86 :: c87 :: c88 :: c89 :: c90 :: c91 :: c92 :: c93 :: c94 :: c95 :: c96 :: c97 :: c98 :: c99 :: c100 :: c101 :: c102 :: c103 :: c104 :: c105 :: c106 :: c107 :: c108 :: c109 :: c110 :: c111 :: c112 :: c113 :: c114 :: c115 :: c116 :: c117 :: c118 :: c119 :: c120 :: c121 :: c122 :: c123 :: c124 :: c125 :: c126 :: c127 :: c128 :: c129 :: c130 :: c131 :: c132 :: c133 :: c134 :: c135 :: c136 :: c137 :: c138 :: c139 :: c140 :: c141 :: c142 :: c143 :: c144 :: c145 :: c146 :: c147 :: c148 :: c149 :: c150 :: u151 :: u152 :: u153 :: u154 :: u155 :: u156 :: u157 :: u158 :: u159 :: u160 :: u161 :: u162 :: u163 :: u164 :: u165 :: u166 :: u167 :: u168 :: u169 :: u170 :: u171 :: u172 :: u173 :: u174 :: u175 :: u176 :: u177 :: u178 :: u179 :: u180 :: u181 :: u182 :: u183 :: u184 :: u185 :: u186 :: u187 :: u188 :: u189 :: u190 :: u191 :: u192 :: u193 :: u194 :: u195 :: u196 :: u197 :: u198 :: u199 :: u200 :: u201 :: u202 :: u203 :: u204 :: u205 :: u206 :: u207 :: u208 :: u209 :: u210 :: u211 :: u212 :: u213 :: u214 :: u215 :: u216 :: u217 :: u218 :: u219 :: u220 :: u221 :: u222 :: u223 :: u224 :: u225 :: u226 :: u227 :: u228 :: u229 :: u230 :: u231 :: u232 :: u233 :: u234 :: u235 :: u236 :: u237 :: u238 :: c239 :: c240 :: c241 :: c242 :: c243 :: c244 :: c245 :: c246 :: c247 :: c248 :: c249 :: c250 :: c251 :: c252 :: c253 :: c254 :: c255 :: c256 :: c257 :: c258 :: c259 :: c260 :: c261 :: c262 :: c263 :: c264 :: c265 :: c266 :: c267 :: c268 :: c269 :: c270 :: c271 :: c272 :: c273 :: c274 :: c275 :: c276 :: c277 :: c278 :: c279 :: []), []⟩ (Wd W [.cells (cv .u32 (rd Wl h 64)) 46 (0, 0)] d)) :
    (ref12 4).wp Tryd.prog Q0 ⟨List.toArray (c0 :: c1 :: c2 :: c3 :: c4 :: c5 :: .pointer (some ⟨rb, 0, none⟩) :: c7 :: c8 :: .pointer (some ⟨pw, 0, none⟩) :: c10 :: .pointer (some ⟨W.heap.size, 0, none⟩) :: .int .i64 0 :: c13 :: c14 :: c15 :: c16 :: c17 :: c18 :: c19 :: c20 :: c21 :: c22 :: c23 :: c24 :: c25 :: c26 :: c27 :: c28 :: c29 :: c30 :: c31 :: c32 :: c33 :: c34 :: c35 :: c36 :: c37 :: c38 :: c39 :: c40 :: c41 :: c42 :: c43 :: c44 :: c45 :: c46 :: c47 :: c48 :: c49 :: c50 :: c51 :: c52 :: c53 :: c54 :: c55 :: c56 :: c57 :: c58 :: c59 :: c60 :: c61 :: c62 :: c63 :: c64 :: c65 :: c66 :: c67 :: c68 :: c69 :: c70 :: c71 :: c72 :: c73 :: c74 :: c75 :: c76 :: c77 :: c78 :: c79 :: c80 :: c81 :: c82 :: c83 :: c84 :: c85 :: c86 :: c87 :: c88 :: c89 :: c90 :: c91 :: c92 :: c93 :: c94 :: c95 :: c96 :: c97 :: c98 :: c99 :: c100 :: c101 :: c102 :: c103 :: c104 :: c105 :: c106 :: c107 :: c108 :: c109 :: c110 :: c111 :: c112 :: c113 :: c114 :: c115 :: c116 :: c117 :: c118 :: c119 :: c120 :: c121 :: c122 :: c123 :: c124 :: c125 :: c126 :: c127 :: c128 :: c129 :: c130 :: c131 :: c132 :: c133 :: c134 :: c135 :: c136 :: c137 :: c138 :: c139 :: c140 :: c141 :: c142 :: c143 :: c144 :: c145 :: c146 :: c147 :: c148 :: c149 :: c150 :: c151 :: c152 :: c153 :: c154 :: c155 :: c156 :: c157 :: c158 :: c159 :: c160 :: c161 :: c162 :: c163 :: c164 :: c165 :: c166 :: c167 :: c168 :: c169 :: c170 :: c171 :: c172 :: c173 :: c174 :: c175 :: c176 :: c177 :: c178 :: c179 :: c180 :: c181 :: c182 :: c183 :: c184 :: c185 :: c186 :: c187 :: c188 :: c189 :: c190 :: c191 :: c192 :: c193 :: c194 :: c195 :: c196 :: c197 :: c198 :: c199 :: c200 :: c201 :: c202 :: c203 :: c204 :: c205 :: c206 :: c207 :: c208 :: c209 :: c210 :: c211 :: c212 :: c213 :: c214 :: c215 :: c216 :: c217 :: c218 :: c219 :: c220 :: c221 :: c222 :: c223 :: c224 :: c225 :: c226 :: c227 :: c228 :: c229 :: c230 :: c231 :: c232 :: c233 :: c234 :: c235 :: c236 :: c237 :: c238 :: c239 :: c240 :: c241 :: c242 :: c243 :: c244 :: c245 :: c246 :: c247 :: c248 :: c249 :: c250 :: c251 :: c252 :: c253 :: c254 :: c255 :: c256 :: c257 :: c258 :: c259 :: c260 :: c261 :: c262 :: c263 :: c264 :: c265 :: c266 :: c267 :: c268 :: c269 :: c270 :: c271 :: c272 :: c273 :: c274 :: c275 :: c276 :: c277 :: c278 :: c279 :: []), []⟩ (Wd W [.cells (cv .u32 h) 46 (0, 0)] d) := by
  conv => arg 2; whnf
  have HRB := Lib.hid hRB
  have HPW := Lib.hid hPW
  have hRW : ∀ (l : List Obj) (d : Nat), blk (Wd W l d) rb = some (.cells (cv .u32 rootsL) 56 (0, 0)) := fun l d => blk_old _ _ _ _ HRB.out
  have hPP : ∀ (l : List Obj) (d : Nat), blk (Wd W l d) pw = some (.cells (cv .u32 Wl) 56 (0, 0)) := fun l d => blk_old _ _ _ _ HPW.out
  clear hRB hPW
  go_loopw [12] (fun i wr => ∃ (k d : Nat) (v : List Nat), k ≤ 64 ∧ i = .int .i64 k ∧ Hid (rd Wl h k = v) ∧ Hid (v.length = 8) ∧ wr = Wd W [.cells (cv .u32 v) 46 (0, 0)] d) (fun i _ => 64 - (intOf i).toNat)
  case atStart => exact ⟨0, _, h, by omega, rfl, Lib.hid rfl, Lib.hid hcl, rfl⟩
  case round =>
    obtain ⟨k, d, v, hk, rfl, hv, hvl, rfl⟩ := hrel
    have hvl8 := hvl.out
    by_cases hk64 : k < 64
    · have hn : Hid (rd Wl h (k + 1) = [add32 (add32 (add32 (add32 (add32 (gi v 7) (xor32 (xor32 (rotI (gi v 4) 6) (rotI (gi v 4) 11)) (rotI (gi v 4) 25))) (xor32 (and32 (gi v 4) (gi v 5)) (and32 (not32 (gi v 4)) (gi v 6)))) (gi rootsL k)) (gi Wl k)) (add32 (xor32 (xor32 (rotI (gi v 0) 2) (rotI (gi v 0) 13)) (rotI (gi v 0) 22)) (xor32 (xor32 (and32 (gi v 0) (gi v 1)) (and32 (gi v 0) (gi v 2))) (and32 (gi v 1) (gi v 2)))), gi v 0, gi v 1, gi v 2, add32 (gi v 3) (add32 (add32 (add32 (add32 (gi v 7) (xor32 (xor32 (rotI (gi v 4) 6) (rotI (gi v 4) 11)) (rotI (gi v 4) 25))) (xor32 (and32 (gi v 4) (gi v 5)) (and32 (not32 (gi v 4)) (gi v 6)))) (gi rootsL k)) (gi Wl k)), gi v 4, gi v 5, gi v 6]) := Lib.hid (by rw [rd, hv.out, rdF, turnedF, turnedF, pickF, mostF])
      have hrtl : k < rootsL.length := hk64
      have hki : (k : Int) < 64 := by omega
      go_wp2
      refine wp_region_drew 35 (by kernel_rfl) (by kernel_rfl) ?_
      simp only [List.take_succ_cons, List.take_zero, List.drop_succ_cons, List.drop_zero]
      repeat (go_big_quiet_step (exact drew_same (turn_int _ _ (by decide) (by decide) _)))
      refine wpQuiet_nil ?_
      intro eR
      go_wp2
      refine wp_region_drew 29 (by kernel_rfl) (by kernel_rfl) ?_
      simp only [List.take_succ_cons, List.take_zero, List.drop_succ_cons, List.drop_zero]
      repeat (go_big_quiet_step (exact drew_same (turn_int _ _ (by decide) (by decide) _)))
      refine wpQuiet_nil ?_
      intro eR2
      go_wp2
      go_roundw
      case rel => exact ⟨k + 1, _, _, by omega, by go_num, hn, Lib.hid rfl, rfl⟩
      case measure => simp [intOf]; omega
    · obtain rfl : k = 64 := by omega
      clear hk64
      go_wp2
      rw [← hv.out]
      exact hexit _ _ _ _ _ _ _ _ _ _ _ _ _ _ _ _ _ _ _ _ _ _ _ _ _ _ _ _ _ _ _ _ _ _ _ _ _ _ _ _ _ _ _ _ _ _ _ _ _ _ _ _ _ _ _ _ _ _ _ _ _ _ _ _ _ _ _ _ _ _ _ _ _ _ _ _ _ _ _ _ _ _ _ _ _ _ _ _ _ _ _ _
end Go.Proofs.YtokijignhpcjlaaDoor

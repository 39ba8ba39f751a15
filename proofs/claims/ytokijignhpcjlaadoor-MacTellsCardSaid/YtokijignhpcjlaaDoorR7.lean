/- The loops of the document's digest, each on its own: whatever stands in the other slots. -/
import Derived.Test.YtokijignhpcjlaaDoorR4
namespace Go.Proofs.YtokijignhpcjlaaDoor
open Go.RowKit Go.Own
attribute [local go_sem] ag47 ag50 ag56 ag45 ag5 ag3 cs47 cs50 cs56 cs45 cs5 cs3 sz47 sz50 sz56 sz45 sz5 sz3 isa45 isa5 isa3 z47 z56 ag46 cs46 sz46 z46 bu46 bu46s bs4 bs128 bs0 bs1
attribute [local go_sem ↓] shr_i64
attribute [-go_sem] run_string_add_if
attribute [local go_sem] bif32
set_option maxRecDepth 1000000 in
set_option maxHeartbeats 4000000 in
theorem words_loop (W : World) (S S1 bl : List Nat) (sb ML N b d : Nat) (tS : TypeId) (fS : Nat × Nat) (HMN : Hid (64 * N = ML)) (hbN : b < N) (hMLb : ML ≤ 1099511627776) (HTS : Hid (S1.take ML = S)) (hleS : ML ≤ S1.length)
    (hS8 : Hid (B8 S)) (HBL : Hid (blkB S b = bl)) (HSB : Hid (blk W sb = some (.cells (cv .u8 S1) tS fS)))
    (c0 c1 c2 c4 c5 c6 c7 c11 c12 c13 c14 c15 c16 c17 c18 c19 c20 c21 c22 c23 c24 c25 c26 c27 c28 c29 c30 c31 c32 c33 c34 c35 c36 c37 c38 c39 c40 c41 c42 c43 c44 c45 c46 c47 c48 c49 c50 c51 c52 c53 c54 c55 c56 c57 c58 c59 c60 c61 c62 c63 c64 c65 c66 c67 c68 c69 c70 c71 c72 c73 c74 c75 c76 c77 c78 c79 c80 c81 c82 c83 c84 c85 c86 c87 c88 c89 c90 c91 c92 c93 c94 c95 c96 c97 c98 c99 c100 c101 c102 c103 c104 c105 c106 c107 c108 c109 c110 c111 c112 c113 c114 c115 c116 c117 c118 c119 c120 c121 c122 c123 c124 c125 c126 c127 c128 c129 c130 c131 c132 c133 c134 c135 c136 c137 c138 c139 c140 c141 c142 c143 c144 c145 c146 c147 c148 c149 c150 c151 c152 c153 c154 c155 c156 c157 c158 c159 c160 c161 c162 c163 c164 c165 c166 c167 c168 c169 c170 c171 c172 c173 c174 c175 c176 c177 c178 c179 c180 c181 c182 c183 c184 c185 c186 c187 c188 c189 c190 c191 c192 c193 c194 c195 c196 c197 c198 c199 c200 c201 c202 c203 c204 c205 c206 c207 c208 c209 c210 c211 c212 c213 c214 c215 c216 c217 c218 c219 c220 c221 c222 c223 c224 c225 c226 c227 c228 c229 c230 c231 c232 c233 c234 c235 c236 c237 c238 c239 c240 c241 c242 c243 c244 c245 c246 c247 c248 c249 c250 c251 c252 c253 c254 c255 c256 c257 c258 c259 c260 c261 c262 c263 c264 c265 c266 c267 c268 c269 c270 c271 c272 c273 c274 c275 c276 c277 c278 c279 : Value) (Q0 : Exit → Act → World → Prop)
    (hexit : ∀ (u10 u54 u55 u56 u57 u58 u59 u60 u61 u62 u63 u64 u65 u66 u67 u68 u69 u70 u71 u72 u73 u74 u75 u76 u77 u78 u79 u80 u81 u82 u83 u84 u85 u86 u87 u88 u89 u90 u91 u92 u93 u94 u95 u96 u97 u98 u99 u100 u101 u102 u103 u104 u105 u106 u107 u108 u109 u110 u111 u112 u113 u114 u115 u116 u117 u118 u119 u120 u121 u122 u123 u124 u125 u126 u127 u128 u129 u130 u131 u132 u133 u134 u135 u136 u137 u138 u139 u140 u141 u142 u143 u144 u145 u146 u147 u148 u149 : Value) (d : Nat), Q0 (.exit 6) ⟨List.toArray (c0 :: c1 :: c2 :: .slice (some ⟨sb, 0, none⟩) ML S1.length :: c4 :: c5 :: c6 :: c7 :: .int .i64 (64 * (b : Int)) :: .pointer (some ⟨W.heap.size, 0, none⟩) :: u10 :: c11 :: c12 :: c13 :: c14 :: c15 :: c16 :: c17 :: c18 :: c19 :: c20 :: c21 :: c22 :: c23 :: c24 :: c25 :: c26 :: c27 :: c28 :: c29 :: c30 :: c31 :: c32 :: c33 :: c34 :: c35 :: c36 :: c37 :: c38 :: c39 :: c40 :: c41 :: c42 :: c43 :: c44 :: c45 :: c46 :: c47 :: c48 :: c49 :: c50 :: c51 :: c52 :: c53 :: u54 :: u55 :: u56 :: u57 :: u58 :: u59 :: u60 :: u61 :: u62 :: u63 :: u64 :: u65 :: u66 :: u67 :: u68 :: u69 :: u70 :: u71 :: u72 :: u73 :: u74 :: u75 :: u76 :: u77 :: u78 :: u79 :: u80 :: u81 :: u82 :: u83 :: u84 :: u85 :: u86 :: u87 :: u88 :: u89 :: u90 :: u91 :: u92 :: u93 :: u94 :: u95 :: u96 :: u97 :: u98 :: u99 :: u100 :: u101 :: u102 :: u103 :: u104 :: u105 :: u106 :: u107 :: u108 :: u109 :: u110 :: u111 :: u112 :: u113 :: u114 :: u115 :: u116 :: u117 :: u118 :: u119 :: u120 :: u121 :: u122 :: u123 :: u124 :: u125 :: u126 :: u127 :: u128 :: u129 :: u130 :: u131 :: u132 :: u133 :: u134 :: u135 :: u136 :: u137 :: u138 :: u139 :: u140 :: u141 :: u142 :: u143 :: u144 :: u145 :: u146 :: u147 :: u148 :: u149 :: c150 :: c151 :: c152 :: c153 :: c154 :: c155 :: c156 :: c157 :: c158 :: c159 :: c160 :: c161 :: c162 :: c163 :: c164 :: c165 :: c166 :: c167 :: c168 :: c169 :: c170 :: c171 :: c172 :: c173 :: c174 :: c175 :: c176 :: c177 :: c178 :: c179 :: c180 :: c181 :: c182 :: c183 :: c184 :: c185 :: c186 :: c187 :: c188 :: c189 :: c190 :: c191 :: c192 :: c193 :: c194 :: c195 :: c196 :: c197 :: c198 :: c199 :: c200 :: c201 :: c202 :: c203 :: c204 :: c205 :: c206 :: c207 :: c208 :: c209 :: c210 :: c211 :: c212 :: c213 :: c214 :: c215 :: c216 :: c217 :: c218 :: c219 :: c220 :: c221 :: c222 :: c223 :: c224 :: c225 :: c226 :: c227 :: c228 :: c229 :: c230 :: c231 :: c232 :: c233 :: c234 :: c235 :: c236 :: c237 :: c238 :: c239 :: c240 :: c241 :: c242 :: c243 :: c244 :: c245 :: c246 :: c247 :: c248 :: c249 :: c250 :: c251 :: c252 :: c253 :: c254 :: c255 :: c256 :: c257 :: c258 :: c259 :: c260 :: c261 :: c262 :: c263 :: c264 :: c265 :: c266 :: c267 :: c268 :: c269 :: c270 :: c271 :: c272 :: c273 :: c274 :: c275 :: c276 :: c277 :: c278 :: c279 :: []), []⟩ (Wd W [.cells (cv .u32 (rwd bl 64)) 56 (0, 0)] d)) :
    (ref12 3).wp Tryd.prog Q0 ⟨List.toArray (c0 :: c1 :: c2 :: .slice (some ⟨sb, 0, none⟩) ML S1.length :: c4 :: c5 :: c6 :: c7 :: .int .i64 (64 * (b : Int)) :: .pointer (some ⟨W.heap.size, 0, none⟩) :: .int .i64 0 :: c11 :: c12 :: c13 :: c14 :: c15 :: c16 :: c17 :: c18 :: c19 :: c20 :: c21 :: c22 :: c23 :: c24 :: c25 :: c26 :: c27 :: c28 :: c29 :: c30 :: c31 :: c32 :: c33 :: c34 :: c35 :: c36 :: c37 :: c38 :: c39 :: c40 :: c41 :: c42 :: c43 :: c44 :: c45 :: c46 :: c47 :: c48 :: c49 :: c50 :: c51 :: c52 :: c53 :: c54 :: c55 :: c56 :: c57 :: c58 :: c59 :: c60 :: c61 :: c62 :: c63 :: c64 :: c65 :: c66 :: c67 :: c68 :: c69 :: c70 :: c71 :: c72 :: c73 :: c74 :: c75 :: c76 :: c77 :: c78 :: c79 :: c80 :: c81 :: c82 :: c83 :: c84 :: c85 :: c86 :: c87 :: c88 :: c89 :: c90 :: c91 :: c92 :: c93 :: c94 :: c95 :: c96 :: c97 :: c98 :: c99 :: c100 :: c101 :: c102 :: c103 :: c104 :: c105 :: c106 :: c107 :: c108 :: c109 :: c110 :: c111 :: c112 :: c113 :: c114 :: c115 :: c116 :: c117 :: c118 :: c119 :: c120 :: c121 :: c122 :: c123 :: c124 :: c125 :: c126 :: c127 :: c128 :: c129 :: c130 :: c131 :: c132 :: c133 :: c134 :: c135 :: c136 :: c137 :: c138 :: c139 :: c140 :: c141 :: c142 :: c143 :: c144 :: c145 :: c146 :: c147 :: c148 :: c149 :: c150 :: c151 :: c152 :: c153 :: c154 :: c155 :: c156 :: c157 :: c158 :: c159 :: c160 :: c161 :: c162 :: c163 :: c164 :: c165 :: c166 :: c167 :: c168 :: c169 :: c170 :: c171 :: c172 :: c173 :: c174 :: c175 :: c176 :: c177 :: c178 :: c179 :: c180 :: c181 :: c182 :: c183 :: c184 :: c185 :: c186 :: c187 :: c188 :: c189 :: c190 :: c191 :: c192 :: c193 :: c194 :: c195 :: c196 :: c197 :: c198 :: c199 :: c200 :: c201 :: c202 :: c203 :: c204 :: c205 :: c206 :: c207 :: c208 :: c209 :: c210 :: c211 :: c212 :: c213 :: c214 :: c215 :: c216 :: c217 :: c218 :: c219 :: c220 :: c221 :: c222 :: c223 :: c224 :: c225 :: c226 :: c227 :: c228 :: c229 :: c230 :: c231 :: c232 :: c233 :: c234 :: c235 :: c236 :: c237 :: c238 :: c239 :: c240 :: c241 :: c242 :: c243 :: c244 :: c245 :: c246 :: c247 :: c248 :: c249 :: c250 :: c251 :: c252 :: c253 :: c254 :: c255 :: c256 :: c257 :: c258 :: c259 :: c260 :: c261 :: c262 :: c263 :: c264 :: c265 :: c266 :: c267 :: c268 :: c269 :: c270 :: c271 :: c272 :: c273 :: c274 :: c275 :: c276 :: c277 :: c278 :: c279 :: []), []⟩ (Wd W [.cells (cv .u32 (rep 64)) 56 (0, 0)] d) := by
  conv => arg 2; whnf
  go_loopw [10] (fun i wr => ∃ (t d : Nat), t ≤ 64 ∧ i = .int .i64 t ∧ wr = Wd W [.cells (cv .u32 (rwd bl t)) 56 (0, 0)] d) (fun i _ => 64 - (intOf i).toNat)
  case atStart => exact ⟨0, _, by omega, rfl, rfl⟩
  case round =>
    obtain ⟨t, d, ht, rfl, rfl⟩ := hrel
    have hrl := rwd_length bl t ht
    by_cases ht64 : t < 64
    · have hti : (t : Int) < 64 := by omega
      by_cases ht16 : t < 16
      · have hti16 : (t : Int) < 16 := by omega
        obtain ⟨p0, hp0⟩ : ∃ p, 64 * b + 4 * t = p := ⟨_, rfl⟩
        obtain ⟨p1, hp1⟩ : ∃ p, p0 + 1 = p := ⟨_, rfl⟩
        obtain ⟨p2, hp2⟩ : ∃ p, p0 + 2 = p := ⟨_, rfl⟩
        obtain ⟨p3, hp3⟩ : ∃ p, p0 + 3 = p := ⟨_, rfl⟩
        have hMN := HMN.out
        obtain ⟨t4, ht4⟩ : ∃ t4 : Nat, 4 * t = t4 := ⟨_, rfl⟩
        have e4 : IntKind.i64.wrap (4 * (t : Int)) = (t4 : Int) := by rw [IntWalk.i64_in _ (by omega)]; omega
        have e0 : IntKind.i64.wrap (64 * (b : Int) + (t4 : Int)) = (p0 : Int) := by rw [IntWalk.i64_in _ (by omega)]; omega
        have e1 : IntKind.i64.wrap ((p0 : Int) + 1) = (p1 : Int) := by rw [IntWalk.i64_in _ (by omega)]; omega
        have e2 : IntKind.i64.wrap ((p0 : Int) + 2) = (p2 : Int) := by rw [IntWalk.i64_in _ (by omega)]; omega
        have e3 : IntKind.i64.wrap ((p0 : Int) + 3) = (p3 : Int) := by rw [IntWalk.i64_in _ (by omega)]; omega
        have q0 : (p0 : Int) < (ML : Int) := by omega
        have q1 : (p1 : Int) < (ML : Int) := by omega
        have q2 : (p2 : Int) < (ML : Int) := by omega
        have q3 : (p3 : Int) < (ML : Int) := by omega
        have r0 : p0 < S1.length := by omega
        have r1 : p1 < S1.length := by omega
        have r2 : p2 < S1.length := by omega
        have r3 : p3 < S1.length := by omega
        have g0 : gi S1 p0 = gi bl (4 * t) := by rw [gi_take' HTS.out (by omega), ← HBL.out, blkB_gi _ _ _ (by omega)]; congr 1; omega
        have g1 : gi S1 p1 = gi bl (4 * t + 1) := by rw [gi_take' HTS.out (by omega), ← HBL.out, blkB_gi _ _ _ (by omega)]; congr 1; omega
        have g2 : gi S1 p2 = gi bl (4 * t + 2) := by rw [gi_take' HTS.out (by omega), ← HBL.out, blkB_gi _ _ _ (by omega)]; congr 1; omega
        have g3 : gi S1 p3 = gi bl (4 * t + 3) := by rw [gi_take' HTS.out (by omega), ← HBL.out, blkB_gi _ _ _ (by omega)]; congr 1; omega
        obtain ⟨R, hR⟩ : ∃ R, rwd bl (t + 1) = R := ⟨_, rfl⟩
        have hst : Hid (spl (rwd bl t) t [add32 (add32 (add32 (shl32 (gi S1 p0) 24) (shl32 (gi S1 p1) 16)) (shl32 (gi S1 p2) 8)) (gi S1 p3)] = R) := Lib.hid (by
          rw [← hR, rwd, if_pos ht16, g0, g1, g2, g3, be32])
        have hb8 : B8 S1 ∨ True := Or.inr trivial
        have hlt256 : ∀ q, q < ML → gi S1 q < 256 := fun q hq => by rw [gi_take' HTS.out hq]; exact hS8.out.gi _
        have w0 := u32_of_u8 (hlt256 p0 (by omega))
        have w1 := u32_of_u8 (hlt256 p1 (by omega))
        have w2 := u32_of_u8 (hlt256 p2 (by omega))
        have w3 := u32_of_u8 (hlt256 p3 (by omega))
        have HR := Lib.hid hR
        have hSW : ∀ (l : List Obj) (d : Nat), blk (Wd W l d) sb = some (.cells (cv .u8 S1) tS fS) := fun l d => blk_old _ _ _ _ HSB.out
        clear hR g0 g1 g2 g3 hlt256 hb8 hp0 hp1 hp2 hp3 ht4 hMN
        generalize rwd bl t = Q at *
        go_wp2
        refine wp_region_drew 43 (by kernel_rfl) (by kernel_rfl) ?_
        simp only [List.take_succ_cons, List.take_zero, List.drop_succ_cons, List.drop_zero]
        repeat (go_big_quiet_step (fail))
        refine wpQuiet_nil ?_
        intro eR
        go_wp2
        go_roundw
        case rel => exact ⟨t + 1, _, by omega, by go_num, by rw [hst.out, ← HR.out]⟩
        case measure => simp [intOf]; omega
      · have hti16 : ¬ (t : Int) < 16 := by omega
        obtain ⟨p2, hp2⟩ : ∃ p, t - 2 = p := ⟨_, rfl⟩
        obtain ⟨p7, hp7⟩ : ∃ p, t - 7 = p := ⟨_, rfl⟩
        obtain ⟨p15, hp15⟩ : ∃ p, t - 15 = p := ⟨_, rfl⟩
        obtain ⟨p16, hp16⟩ : ∃ p, t - 16 = p := ⟨_, rfl⟩
        have e2 : IntKind.i64.wrap ((t : Int) - 2) = (p2 : Int) := by rw [IntWalk.i64_in _ (by omega)]; omega
        have e7 : IntKind.i64.wrap ((t : Int) - 7) = (p7 : Int) := by rw [IntWalk.i64_in _ (by omega)]; omega
        have e15 : IntKind.i64.wrap ((t : Int) - 15) = (p15 : Int) := by rw [IntWalk.i64_in _ (by omega)]; omega
        have e16 : IntKind.i64.wrap ((t : Int) - 16) = (p16 : Int) := by rw [IntWalk.i64_in _ (by omega)]; omega
        have q2 : (p2 : Int) < 64 := by omega
        have q7 : (p7 : Int) < 64 := by omega
        have q15 : (p15 : Int) < 64 := by omega
        have q16 : (p16 : Int) < 64 := by omega
        have r2 : p2 < 64 := by omega
        have r7 : p7 < 64 := by omega
        have r15 : p15 < 64 := by omega
        have r16 : p16 < 64 := by omega
        obtain ⟨R, hR⟩ : ∃ R, rwd bl (t + 1) = R := ⟨_, rfl⟩
        have hst : Hid (spl (rwd bl t) t [add32 (add32 (add32 (xor32 (xor32 (rotI (gi (rwd bl t) p2) 17) (rotI (gi (rwd bl t) p2) 19)) (shr32 (gi (rwd bl t) p2) 10)) (gi (rwd bl t) p7)) (xor32 (xor32 (rotI (gi (rwd bl t) p15) 7) (rotI (gi (rwd bl t) p15) 18)) (shr32 (gi (rwd bl t) p15) 3))) (gi (rwd bl t) p16)] = R) := Lib.hid (by
          rw [← hR, rwd, if_neg ht16, hp2, hp7, hp15, hp16, sh_17, sh_7])
        have HR := Lib.hid hR
        clear hR hp2 hp7 hp15 hp16
        generalize rwd bl t = Q at *
        go_wp2
        refine wp_region_drew 47 (by kernel_rfl) (by kernel_rfl) ?_
        simp only [List.take_succ_cons, List.take_zero, List.drop_succ_cons, List.drop_zero]
        repeat (go_big_quiet_step (exact drew_same (turn_int _ _ (by decide) (by decide) _)))
        refine wpQuiet_nil ?_
        intro eR
        go_wp2
        go_roundw
        case rel => exact ⟨t + 1, _, by omega, by go_num, by rw [hst.out, ← HR.out]⟩
        case measure => simp [intOf]; omega
    · obtain rfl : t = 64 := by omega
      obtain ⟨Wl, hWl⟩ : ∃ Wl, rwd bl 64 = Wl := ⟨_, rfl⟩
      rw [hWl] at hrl hexit ⊢
      clear hWl ht64
      go_wp2
      exact hexit _ _ _ _ _ _ _ _ _ _ _ _ _ _ _ _ _ _ _ _ _ _ _ _ _ _ _ _ _ _ _ _ _ _ _ _ _ _ _ _ _ _ _ _ _ _ _ _ _ _ _ _ _ _ _ _ _ _ _ _ _ _ _ _ _ _ _ _ _ _ _ _ _ _ _ _ _ _ _ _ _ _ _ _ _ _ _ _ _ _ _ _ _ _ _ _ _ _
end Go.Proofs.YtokijignhpcjlaaDoor

/- The loops of the document's digest, each on its own: whatever stands in the other slots. -/
import Derived.Test.YtokijignhpcjlaaDoorR5
import Derived.Test.YtokijignhpcjlaaDoorR6
import Derived.Test.YtokijignhpcjlaaDoorR7
import Derived.Test.YtokijignhpcjlaaDoorR8
namespace Go.Proofs.YtokijignhpcjlaaDoor
open Go.RowKit Go.Own
attribute [local go_sem] ag47 ag50 ag56 ag45 ag5 ag3 cs47 cs50 cs56 cs45 cs5 cs3 sz47 sz50 sz56 sz45 sz5 sz3 isa45 isa5 isa3 z47 z56 ag46 cs46 sz46 z46 bu46 bu46s bs4 bs128 bs0 bs1
attribute [local go_sem ↓] shr_i64
attribute [-go_sem] run_string_add_if
attribute [local go_sem] bif32
theorem Wd_split (w : World) (l m : List Obj) (d : Nat) : Wd w (l ++ m) d = Wd (Wd w l d) m 0 := by rw [Wd_wd, Nat.add_zero]
set_option maxRecDepth 1000000 in
set_option maxHeartbeats 4000000 in
theorem main_loop (W : World) (S S1 : List Nat) (sb rb ML N d : Nat) (g : List Obj) (tS : TypeId) (fS : Nat × Nat) (HMN : Hid (64 * N = ML)) (hMLb : ML ≤ 1099511627776) (HTS : Hid (S1.take ML = S)) (hleS : ML ≤ S1.length)
    (hS8 : Hid (B8 S)) (HSB : Hid (blk W sb = some (.cells (cv .u8 S1) tS fS))) (HRB : Hid (blk W rb = some (.cells (cv .u32 rootsL) 56 (0, 0))))
    (c0 c1 c2 c4 c5 c9 c10 c11 c12 c13 c14 c15 c16 c17 c18 c19 c20 c21 c22 c23 c24 c25 c26 c27 c28 c29 c30 c31 c32 c33 c34 c35 c36 c37 c38 c39 c40 c41 c42 c43 c44 c45 c46 c47 c48 c49 c50 c51 c52 c53 c54 c55 c56 c57 c58 c59 c60 c61 c62 c63 c64 c65 c66 c67 c68 c69 c70 c71 c72 c73 c74 c75 c76 c77 c78 c79 c80 c81 c82 c83 c84 c85 c86 c87 c88 c89 c90 c91 c92 c93 c94 c95 c96 c97 c98 c99 c100 c101 c102 c103 c104 c105 c106 c107 c108 c109 c110 c111 c112 c113 c114 c115 c116 c117 c118 c119 c120 c121 c122 c123 c124 c125 c126 c127 c128 c129 c130 c131 c132 c133 c134 c135 c136 c137 c138 c139 c140 c141 c142 c143 c144 c145 c146 c147 c148 c149 c150 c151 c152 c153 c154 c155 c156 c157 c158 c159 c160 c161 c162 c163 c164 c165 c166 c167 c168 c169 c170 c171 c172 c173 c174 c175 c176 c177 c178 c179 c180 c181 c182 c183 c184 c185 c186 c187 c188 c189 c190 c191 c192 c193 c194 c195 c196 c197 c198 c199 c200 c201 c202 c203 c204 c205 c206 c207 c208 c209 c210 c211 c212 c213 c214 c215 c216 c217 c218 c219 c220 c221 c222 c223 c224 c225 c226 c227 c228 c229 c230 c231 c232 c233 c234 c235 c236 c237 c238 c239 c240 c241 c242 c243 c244 c245 c246 c247 c248 c249 c250 c251 c252 c253 c254 c255 c256 c257 c258 c259 c260 c261 c262 c263 c264 c265 c266 c267 c268 c269 c270 c271 c272 c273 c274 c275 c276 c277 c278 c279 : Value) (Q0 : Exit → Act → World → Prop)
    (hexit : ∀ (u8 u9 u10 u11 u12 u13 u14 u15 u48 u49 u50 u51 u52 u53 u54 u55 u56 u57 u58 u59 u60 u61 u62 u63 u64 u65 u66 u67 u68 u69 u70 u71 u72 u73 u74 u75 u76 u77 u78 u79 u80 u81 u82 u83 u84 u85 u86 u87 u88 u89 u90 u91 u92 u93 u94 u95 u96 u97 u98 u99 u100 u101 u102 u103 u104 u105 u106 u107 u108 u109 u110 u111 u112 u113 u114 u115 u116 u117 u118 u119 u120 u121 u122 u123 u124 u125 u126 u127 u128 u129 u130 u131 u132 u133 u134 u135 u136 u137 u138 u139 u140 u141 u142 u143 u144 u145 u146 u147 u148 u149 u150 u151 u152 u153 u154 u155 u156 u157 u158 u159 u160 u161 u162 u163 u164 u165 u166 u167 u168 u169 u170 u171 u172 u173 u174 u175 u176 u177 u178 u179 u180 u181 u182 u183 u184 u185 u186 u187 u188 u189 u190 u191 u192 u193 u194 u195 u196 u197 u198 u199 u200 u201 u202 u203 u204 u205 u206 u207 u208 u209 u210 u211 u212 u213 u214 u215 u216 u217 u218 u219 u220 u221 u222 u223 u224 u225 u226 u227 u228 u229 u230 u231 u232 u233 u234 u235 u236 u237 u238 u239 u240 u241 u242 u243 u244 u245 u246 u247 u248 u249 u250 u251 : Value) (g : List Obj) (d : Nat), Q0 (.exit 4) ⟨List.toArray (c0 :: c1 :: c2 :: .slice (some ⟨sb, 0, none⟩) ML S1.length :: c4 :: c5 :: .pointer (some ⟨rb, 0, none⟩) :: .pointer (some ⟨W.heap.size, 0, none⟩) :: u8 :: u9 :: u10 :: u11 :: u12 :: u13 :: u14 :: u15 :: c16 :: c17 :: c18 :: c19 :: c20 :: c21 :: c22 :: c23 :: c24 :: c25 :: c26 :: c27 :: c28 :: c29 :: c30 :: c31 :: c32 :: c33 :: c34 :: c35 :: c36 :: c37 :: c38 :: c39 :: c40 :: c41 :: c42 :: c43 :: c44 :: c45 :: c46 :: c47 :: u48 :: u49 :: u50 :: u51 :: u52 :: u53 :: u54 :: u55 :: u56 :: u57 :: u58 :: u59 :: u60 :: u61 :: u62 :: u63 :: u64 :: u65 :: u66 :: u67 :: u68 :: u69 :: u70 :: u71 :: u72 :: u73 :: u74 :: u75 :: u76 :: u77 :: u78 :: u79 :: u80 :: u81 :: u82 :: u83 :: u84 :: u85 :: u86 :: u87 :: u88 :: u89 :: u90 :: u91 :: u92 :: u93 :: u94 :: u95 :: u96 :: u97 :: u98 :: u99 :: u100 :: u101 :: u102 :: u103 :: u104 :: u105 :: u106 :: u107 :: u108 :: u109 :: u110 :: u111 :: u112 :: u113 :: u114 :: u115 :: u116 :: u117 :: u118 :: u119 :: u120 :: u121 :: u122 :: u123 :: u124 :: u125 :: u126 :: u127 :: u128 :: u129 :: u130 :: u131 :: u132 :: u133 :: u134 :: u135 :: u136 :: u137 :: u138 :: u139 :: u140 :: u141 :: u142 :: u143 :: u144 :: u145 :: u146 :: u147 :: u148 :: u149 :: u150 :: u151 :: u152 :: u153 :: u154 :: u155 :: u156 :: u157 :: u158 :: u159 :: u160 :: u161 :: u162 :: u163 :: u164 :: u165 :: u166 :: u167 :: u168 :: u169 :: u170 :: u171 :: u172 :: u173 :: u174 :: u175 :: u176 :: u177 :: u178 :: u179 :: u180 :: u181 :: u182 :: u183 :: u184 :: u185 :: u186 :: u187 :: u188 :: u189 :: u190 :: u191 :: u192 :: u193 :: u194 :: u195 :: u196 :: u197 :: u198 :: u199 :: u200 :: u201 :: u202 :: u203 :: u204 :: u205 :: u206 :: u207 :: u208 :: u209 :: u210 :: u211 :: u212 :: u213 :: u214 :: u215 :: u216 :: u217 :: u218 :: u219 :: u220 :: u221 :: u222 :: u223 :: u224 :: u225 :: u226 :: u227 :: u228 :: u229 :: u230 :: u231 :: u232 :: u233 :: u234 :: u235 :: u236 :: u237 :: u238 :: u239 :: u240 :: u241 :: u242 :: u243 :: u244 :: u245 :: u246 :: u247 :: u248 :: u249 :: u250 :: u251 :: c252 :: c253 :: c254 :: c255 :: c256 :: c257 :: c258 :: c259 :: c260 :: c261 :: c262 :: c263 :: c264 :: c265 :: c266 :: c267 :: c268 :: c269 :: c270 :: c271 :: c272 :: c273 :: c274 :: c275 :: c276 :: c277 :: c278 :: c279 :: []), []⟩ (Wd W (.cells (cv .u32 (chain S N)) 46 (0, 0) :: g) d)) :
    (ref12 2).wp Tryd.prog Q0 ⟨List.toArray (c0 :: c1 :: c2 :: .slice (some ⟨sb, 0, none⟩) ML S1.length :: c4 :: c5 :: .pointer (some ⟨rb, 0, none⟩) :: .pointer (some ⟨W.heap.size, 0, none⟩) :: .int .i64 0 :: c9 :: c10 :: c11 :: c12 :: c13 :: c14 :: c15 :: c16 :: c17 :: c18 :: c19 :: c20 :: c21 :: c22 :: c23 :: c24 :: c25 :: c26 :: c27 :: c28 :: c29 :: c30 :: c31 :: c32 :: c33 :: c34 :: c35 :: c36 :: c37 :: c38 :: c39 :: c40 :: c41 :: c42 :: c43 :: c44 :: c45 :: c46 :: c47 :: c48 :: c49 :: c50 :: c51 :: c52 :: c53 :: c54 :: c55 :: c56 :: c57 :: c58 :: c59 :: c60 :: c61 :: c62 :: c63 :: c64 :: c65 :: c66 :: c67 :: c68 :: c69 :: c70 :: c71 :: c72 :: c73 :: c74 :: c75 :: c76 :: c77 :: c78 :: c79 :: c80 :: c81 :: c82 :: c83 :: c84 :: c85 :: c86 :: c87 :: c88 :: c89 :: c90 :: c91 :: c92 :: c93 :: c94 :: c95 :: c96 :: c97 :: c98 :: c99 :: c100 :: c101 :: c102 :: c103 :: c104 :: c105 :: c106 :: c107 :: c108 :: c109 :: c110 :: c111 :: c112 :: c113 :: c114 :: c115 :: c116 :: c117 :: c118 :: c119 :: c120 :: c121 :: c122 :: c123 :: c124 :: c125 :: c126 :: c127 :: c128 :: c129 :: c130 :: c131 :: c132 :: c133 :: c134 :: c135 :: c136 :: c137 :: c138 :: c139 :: c140 :: c141 :: c142 :: c143 :: c144 :: c145 :: c146 :: c147 :: c148 :: c149 :: c150 :: c151 :: c152 :: c153 :: c154 :: c155 :: c156 :: c157 :: c158 :: c159 :: c160 :: c161 :: c162 :: c163 :: c164 :: c165 :: c166 :: c167 :: c168 :: c169 :: c170 :: c171 :: c172 :: c173 :: c174 :: c175 :: c176 :: c177 :: c178 :: c179 :: c180 :: c181 :: c182 :: c183 :: c184 :: c185 :: c186 :: c187 :: c188 :: c189 :: c190 :: c191 :: c192 :: c193 :: c194 :: c195 :: c196 :: c197 :: c198 :: c199 :: c200 :: c201 :: c202 :: c203 :: c204 :: c205 :: c206 :: c207 :: c208 :: c209 :: c210 :: c211 :: c212 :: c213 :: c214 :: c215 :: c216 :: c217 :: c218 :: c219 :: c220 :: c221 :: c222 :: c223 :: c224 :: c225 :: c226 :: c227 :: c228 :: c229 :: c230 :: c231 :: c232 :: c233 :: c234 :: c235 :: c236 :: c237 :: c238 :: c239 :: c240 :: c241 :: c242 :: c243 :: c244 :: c245 :: c246 :: c247 :: c248 :: c249 :: c250 :: c251 :: c252 :: c253 :: c254 :: c255 :: c256 :: c257 :: c258 :: c259 :: c260 :: c261 :: c262 :: c263 :: c264 :: c265 :: c266 :: c267 :: c268 :: c269 :: c270 :: c271 :: c272 :: c273 :: c274 :: c275 :: c276 :: c277 :: c278 :: c279 :: []), []⟩ (Wd W (.cells (cv .u32 startL) 46 (0, 0) :: g) d) := by
  conv => arg 2; whnf
  go_loopw [8] (fun i wr => ∃ (b d : Nat) (g : List Obj), b ≤ N ∧ i = .int .i64 (64 * (b : Int)) ∧ wr = Wd W (.cells (cv .u32 (chain S b)) 46 (0, 0) :: g) d) (fun i _ => ML - (intOf i).toNat)
  case atStart => exact ⟨0, _, _, by omega, rfl, rfl⟩
  case round =>
    obtain ⟨b, d, g, hb, rfl, rfl⟩ := hrel
    have hcl := chain_length S b
    by_cases hbN : b < N
    · have hbi : 64 * (b : Int) < (ML : Int) := by have := HMN.out; omega
      have HCS : Hid (chain S (b + 1) = plusL (chain S b) (rd (widenL (blkB S b)) (chain S b) 64)) := Lib.hid rfl
      obtain ⟨h, hh⟩ : ∃ h, chain S b = h := ⟨_, rfl⟩
      rw [hh] at hcl HCS ⊢
      clear hh
      obtain ⟨bl, hbl⟩ : ∃ bl, blkB S b = bl := ⟨_, rfl⟩
      rw [hbl] at HCS
      have HBL := Lib.hid hbl
      clear hbl
      have hb8 : B8 bl := by rw [← HBL.out]; exact (hS8.out.drop _).take _
      have HWL : Hid (rwd bl 64 = widenL bl) := Lib.hid (rwd_widen bl hb8)
      have hWll : Hid ((widenL bl).length = 64) := Lib.hid (by rw [← HWL.out]; exact rwd_length bl 64 (Nat.le_refl _))
      clear hb8
      have hHB : Hid (∀ d, blk (Wd W (.cells (cv .u32 h) 46 (0, 0) :: g) d) W.heap.size = some (.cells (cv .u32 h) 46 (0, 0))) := Lib.hid fun d => by rw [blk_at0]; rfl
      go_wp2
      rw [← List.cons_append, Wd_split]
      obtain ⟨W2, hW2⟩ : ∃ W2, Wd W (.cells (cv .u32 h) 46 (0, 0) :: g) d = W2 := ⟨_, rfl⟩
      have hs2 : W.heap.size + (g.length + 1) = W2.heap.size := by rw [← hW2, Wd_size]; rfl
      have HSB2 : Hid (blk W2 sb = some (.cells (cv .u8 S1) tS fS)) := Lib.hid (hW2 ▸ blk_old _ _ _ _ HSB.out)
      have HRB2 : Hid (blk W2 rb = some (.cells (cv .u32 rootsL) 56 (0, 0))) := Lib.hid (hW2 ▸ blk_old _ _ _ _ HRB.out)
      have hH2 : Hid (∀ l e, blk (Wd W2 l e) W.heap.size = some (.cells (cv .u32 h) 46 (0, 0))) := Lib.hid fun l e => blk_old _ _ _ _ (by rw [← hW2]; exact hHB.out _)
      rw [hs2, hW2]
      have HW2 := Lib.hid hW2
      have HS2 := Lib.hid hs2
      clear hW2 hs2 hHB
      refine words_loop W2 S S1 bl sb ML N b 0 tS fS HMN hbN hMLb HTS hleS hS8 HBL HSB2 _ _ _ _ _ _ _ _ _ _ _ _ _ _ _ _ _ _ _ _ _ _ _ _ _ _ _ _ _ _ _ _ _ _ _ _ _ _ _ _ _ _ _ _ _ _ _ _ _ _ _ _ _ _ _ _ _ _ _ _ _ _ _ _ _ _ _ _ _ _ _ _ _ _ _ _ _ _ _ _ _ _ _ _ _ _ _ _ _ _ _ _ _ _ _ _ _ _ _ _ _ _ _ _ _ _ _ _ _ _ _ _ _ _ _ _ _ _ _ _ _ _ _ _ _ _ _ _ _ _ _ _ _ _ _ _ _ _ _ _ _ _ _ _ _ _ _ _ _ _ _ _ _ _ _ _ _ _ _ _ _ _ _ _ _ _ _ _ _ _ _ _ _ _ _ _ _ _ _ _ _ _ _ _ _ _ _ _ _ _ _ _ _ _ _ _ _ _ _ _ _ _ _ _ _ _ _ _ _ _ _ _ _ _ _ _ _ _ _ _ _ _ _ _ _ _ _ _ _ _ _ _ _ _ _ _ _ _ _ _ _ _ _ _ _ _ _ _ _ _ _ _ _ _ _ _ _ _ _ _ _ _ _ _ _ _ _ _ _ _ _ _ _ _ _ _ _ ?_
      intro _ _ _ _ _ _ _ _ _ _ _ _ _ _ _ _ _ _ _ _ _ _ _ _ _ _ _ _ _ _ _ _ _ _ _ _ _ _ _ _ _ _ _ _ _ _ _ _ _ _ _ _ _ _ _ _ _ _ _ _ _ _ _ _ _ _ _ _ _ _ _ _ _ _ _ _ _ _ _ _ _ _ _ _ _ _ _ _ _ _ _ _ _ _ _ _ _ d2
      rw [HWL.out]
      obtain ⟨Wl, hWl⟩ : ∃ Wl, widenL bl = Wl := ⟨_, rfl⟩
      rw [hWl] at HCS hWll ⊢
      clear hWl HWL
      have hWll' := hWll.out
      have hH2' := hH2.out
      go_wp2
      rw [show [Obj.cells (cv .u32 Wl) 56 (0, 0), Obj.cells (cv .u32 h) 46 (0, 0)] = [Obj.cells (cv .u32 Wl) 56 (0, 0)] ++ [Obj.cells (cv .u32 h) 46 (0, 0)] from rfl, Wd_split]
      obtain ⟨W3, hW3⟩ : ∃ W3, Wd W2 [Obj.cells (cv .u32 Wl) 56 (0, 0)] d2 = W3 := ⟨_, rfl⟩
      have hs3 : W2.heap.size + 1 = W3.heap.size := by rw [← hW3, Wd_size]; rfl
      have hRB3 : blk W3 rb = some (.cells (cv .u32 rootsL) 56 (0, 0)) := hW3 ▸ blk_old _ _ _ _ HRB2.out
      have hPW3 : blk W3 W2.heap.size = some (.cells (cv .u32 Wl) 56 (0, 0)) := by rw [← hW3, blk_at0]; rfl
      rw [hs3, hW3]
      have HW3 := Lib.hid hW3
      have HS3 := Lib.hid hs3
      clear hW3 hs3
      refine rounds_loop W3 h Wl rb W2.heap.size 0 hcl hWll' hRB3 hPW3 _ _ _ _ _ _ _ _ _ _ _ _ _ _ _ _ _ _ _ _ _ _ _ _ _ _ _ _ _ _ _ _ _ _ _ _ _ _ _ _ _ _ _ _ _ _ _ _ _ _ _ _ _ _ _ _ _ _ _ _ _ _ _ _ _ _ _ _ _ _ _ _ _ _ _ _ _ _ _ _ _ _ _ _ _ _ _ _ _ _ _ _ _ _ _ _ _ _ _ _ _ _ _ _ _ _ _ _ _ _ _ _ _ _ _ _ _ _ _ _ _ _ _ _ _ _ _ _ _ _ _ _ _ _ _ _ _ _ _ _ _ _ _ _ _ _ _ _ _ _ _ _ _ _ _ _ _ _ _ _ _ _ _ _ _ _ _ _ _ _ _ _ _ _ _ _ _ _ _ _ _ _ _ _ _ _ _ _ _ _ _ _ _ _ _ _ _ _ _ _ _ _ _ _ _ _ _ _ _ _ _ _ _ _ _ _ _ _ _ _ _ _ _ _ _ _ _ _ _ _ _ _ _ _ _ _ _ _ _ _ _ _ _ _ _ _ _ _ _ _ _ _ _ _ _ _ _ _ _ _ _ _ _ _ _ _ _ _ _ _ _ _ _ _ _ _ _ ?_
      intro _ _ _ _ _ _ _ _ _ _ _ _ _ _ _ _ _ _ _ _ _ _ _ _ _ _ _ _ _ _ _ _ _ _ _ _ _ _ _ _ _ _ _ _ _ _ _ _ _ _ _ _ _ _ _ _ _ _ _ _ _ _ _ _ _ _ _ _ _ _ _ _ _ _ _ _ _ _ _ _ _ _ _ _ _ _ _ _ _ _ _ d3
      obtain ⟨v, hv⟩ : ∃ v, rd Wl h 64 = v := ⟨_, rfl⟩
      have hvl : v.length = 8 := by rw [← hv]; exact rd_length Wl h hcl 64
      rw [hv] at HCS ⊢
      clear hv hRB3 hPW3
      have hWW : ∀ e, Wd W3 [Obj.cells (cv .u32 v) 46 (0, 0)] e = Wd W (Obj.cells (cv .u32 h) 46 (0, 0) :: (g ++ [Obj.cells (cv .u32 Wl) 56 (0, 0), Obj.cells (cv .u32 v) 46 (0, 0)])) (d + d2 + e) := fun e => by
        rw [← HW3.out, Wd_wd, ← HW2.out, Wd_wd, Nat.add_assoc]; rfl
      rw [hWW]
      have hpv : W3.heap.size = W.heap.size + ((g.length + 1) + 1) := by rw [← HS3.out, ← HS2.out]; rfl
      have hg : (g ++ [Obj.cells (cv .u32 Wl) 56 (0, 0), Obj.cells (cv .u32 v) 46 (0, 0)])[g.length + 1]? = some (.cells (cv .u32 v) 46 (0, 0)) := by
        rw [List.getElem?_append_right (by omega), Nat.add_sub_cancel_left]; rfl
      go_wp2
      refine adds_loop W h v _ (g.length + 1) W3.heap.size _ hcl hvl hpv hg _ _ _ _ _ _ _ _ _ _ _ _ _ _ _ _ _ _ _ _ _ _ _ _ _ _ _ _ _ _ _ _ _ _ _ _ _ _ _ _ _ _ _ _ _ _ _ _ _ _ _ _ _ _ _ _ _ _ _ _ _ _ _ _ _ _ _ _ _ _ _ _ _ _ _ _ _ _ _ _ _ _ _ _ _ _ _ _ _ _ _ _ _ _ _ _ _ _ _ _ _ _ _ _ _ _ _ _ _ _ _ _ _ _ _ _ _ _ _ _ _ _ _ _ _ _ _ _ _ _ _ _ _ _ _ _ _ _ _ _ _ _ _ _ _ _ _ _ _ _ _ _ _ _ _ _ _ _ _ _ _ _ _ _ _ _ _ _ _ _ _ _ _ _ _ _ _ _ _ _ _ _ _ _ _ _ _ _ _ _ _ _ _ _ _ _ _ _ _ _ _ _ _ _ _ _ _ _ _ _ _ _ _ _ _ _ _ _ _ _ _ _ _ _ _ _ _ _ _ _ _ _ _ _ _ _ _ _ _ _ _ _ _ _ _ _ _ _ _ _ _ _ _ _ _ _ _ _ _ _ _ _ _ _ _ _ _ _ _ _ _ _ _ _ _ _ _ _ ?_
      intro _ _ _ _ _ _ _ _ _ _ _ _ _ _ d4
      rw [← HCS.out]
      go_wp2
      go_roundw
      case rel => exact ⟨b + 1, _, _, by omega, by go_num, rfl⟩
      case measure => have := HMN.out; simp [intOf]; omega
    · obtain rfl : b = N := by omega
      have hbi : ¬ 64 * (b : Int) < (ML : Int) := by have := HMN.out; omega
      generalize chain S b = h at *
      go_wp2
      exact hexit _ _ _ _ _ _ _ _ _ _ _ _ _ _ _ _ _ _ _ _ _ _ _ _ _ _ _ _ _ _ _ _ _ _ _ _ _ _ _ _ _ _ _ _ _ _ _ _ _ _ _ _ _ _ _ _ _ _ _ _ _ _ _ _ _ _ _ _ _ _ _ _ _ _ _ _ _ _ _ _ _ _ _ _ _ _ _ _ _ _ _ _ _ _ _ _ _ _ _ _ _ _ _ _ _ _ _ _ _ _ _ _ _ _ _ _ _ _ _ _ _ _ _ _ _ _ _ _ _ _ _ _ _ _ _ _ _ _ _ _ _ _ _ _ _ _ _ _ _ _ _ _ _ _ _ _ _ _ _ _ _ _ _ _ _ _ _ _ _ _ _ _ _ _ _ _ _ _ _ _ _ _ _ _ _ _ _ _ _ _ _ _ _ _ _ _ _ _ _ _ _ _ _ _ _ _ _ _ _ _ _ _ _ _
end Go.Proofs.YtokijignhpcjlaaDoor

/- A range over the chunks of a row; the rows' parts; appends. No condition but the sizes. | The texts that make a store anew (store's transactions): by contract. No condition but the sizes. | A store made anew, given what a journal's functions answer: by contract. No condition but the sizes. | Compact, given what a journal's functions answer: by contract. No condition but the sizes. -/
import Derived.Test.YtlogjpmdfimgdaaGreatDoorX05
import Derived.Test.YtlogjpmdfimgdaaGreatDoorX06
namespace Go.Proofs.YtlogjpmdfimgdaaGreatDoor
open Go Go.RowKit Go.Own Go.Own.Sr Go.Own.Fr Go.Shelf
set_option maxRecDepth 100000 in
theorem chunk_any(p:Option Addr)(n c:Nat)(w:World):Calls Tryz.prog 90 #[.slice p n c,.int .i64 16] w fun e w'=>e=.returned (.func (.func 125) #[] #[.pointer (some ⟨w.heap.size,0,none⟩),.pointer (some ⟨w.heap.size+1,0,none⟩)])∧w'=(w.alloc (.cells #[.slice p n c] 29)).alloc (.cells #[.int .i64 16] 3):=by
 go_enter Tryz.func90,Tryz.ntmps90
 go_wp2
 go_ret
 exact⟨rfl,rfl⟩
theorem leaves_one{F:Fence}{n:Nat}{P:Program}{fn:Func}{tmps:Array Value}{R:Ending→World→Prop}(w:World)(D:Nat)(hD:w.heap[D]?=some (.deferred (some [])))
  (h:∃v,(results fn tmps).run P (w.putObj D (.deferred none))=.ok v (w.putObj D (.deferred none))∧R (.returned v) (w.putObj D (.deferred none))):LeavesInM F n P fn tmps R [{ target:=.collected D,args:=#[] }] .returning w :=
 ⟨by simp,.inl ⟨_,_,rfl,run_takeDeferred hD,h⟩⟩
theorem wp_chunks{tp:Nat}{g:Operand}{assign body:Code}{Q:Exit→Act→World→Prop}{a:Act}{w:World}(b o n cap b1 b2:Nat)(hc:n≤cap)(hn:n≤1000000)(h1:w.heap[b1]?=some (.cells #[.slice (some ⟨b,o,none⟩) n cap] 29 (0,0)))(h2:w.heap[b2]?=some (.cells #[.int .i64 16] 3 (0,0)))
  (hg:a.eval g=.func (.func 125) #[] #[.pointer (some ⟨b1,0,none⟩),.pointer (some ⟨b2,0,none⟩)]) (I:List Nat→World→Prop) (hI:OwnFrom w.heap.size I) (h0:I [] w) (a₁:Nat→Act)
  (hassign:∀(l:Nat) (x:Nat) (W:World) (K:Act→World→Prop),K (a₁ x) W→assign.wpIn (rnd l) 1 Tryz.prog (Exit.then K (fun _ _ _=>False)) { tmps:=a.tmps.setIfInBounds tp (.slice (some ⟨b,o+x*16,none⟩) (min 16 (n-x*16)) (min 16 (n-x*16))),defers:=[] } W)
  (hbody:∀(l:Nat) (pre:List Nat) (x:Nat) (W:World),I pre W→pre.length<(n+15)/16→body.wpIn (rnd l) 1 Tryz.prog (ownPostK (Keeps2 b1 b2) I (fun _ _ _=>False) (pre++[x]) W) (a₁ x) W)
  (hdone:∀(D:Nat) (W:World),w.heap.size≤D→I (List.range ((n+15)/16)) W→W.heap[D]?=some (.deferred (some []))→Q .normal { a with defers:={ target:=.collected D,args:=#[] } :: a.defers } W) :
  (Code.rangeFunc g #[tp] assign body).wp Tryz.prog Q a w:=by
 have hb1:=(Array.getElem?_eq_some_iff.1 h1).1
 have hb2:=(Array.getElem?_eq_some_iff.1 h2).1
 refine(wpIn_wide (n:=3)).1 ?_
 refine wpIn_rangeFunc_ownF (F:=Fence.wide) rfl (by decide) (gf:=125) hg trivial (enters_of Tryz.func125 (by kernel_rfl) rfl) (chunk_stops b o n cap b1 b2 (3-1) hc hn w h1 h2) (fun h k=>⟨fun o ho=>k.1 o (h.1 o ho),fun o ho=>k.2 o (h.2 o ho)⟩)
  (fun W l o o' hl _ _ _=>⟨fun o2 ho2=>?_,fun o2 ho2=>?_⟩)
  (Below.refl _ _) (fun _=>rfl) I (fun _ _ _=>False) hI (fun _ _ _ _ _ hs _ _=>hs) h0 a₁ (fun l x W K hK=>?_) (fun l pre x W hW hlen=>hbody l pre x W hW hlen) ?_ ?_
 ·rw[World.putObj_heap_other (by omega)];exact ho2
 ·rw[World.putObj_heap_other (by omega)];exact ho2
 ·have e:(#[tp].zip (encK b o n x)).foldl (fun t (p,v)=>t.setIfInBounds p v) a.tmps=a.tmps.setIfInBounds tp (.slice (some ⟨b,o+x*16,none⟩) (min 16 (n-x*16)) (min 16 (n-x*16))):=by simp[encK]
  rw[e]
  exact hassign l x W K hK
 ·rintro D xs W hD rfl hW hK
  exact hdone D W hD hW hK
 ·rintro D c pre W _ _ h _
  exact h.elim
def chunkK(ks:List ByteArray)(k:Nat):List ByteArray:=(ks.drop (k*16)).take 16
theorem chunkK_length(ks:List ByteArray)(k:Nat):(chunkK ks k).length=min 16 (ks.length-k*16):=by simp[chunkK]
theorem chunkK_mem{ks:List ByteArray}{k:Nat}{s:ByteArray}(h:s∈chunkK ks k):s∈ks:=List.mem_of_mem_drop (List.mem_of_mem_take h)
theorem strRow_chunk{w:World}{b o n cap:Nat}{ks:List ByteArray}(hn:ks.length=n)(h:StrRow w (.slice (some ⟨b,o,none⟩) n cap) ks)(k:Nat) :
  StrRow w (.slice (some ⟨b,o+k*16,none⟩) (min 16 (n-k*16)) (min 16 (n-k*16))) (chunkK ks k):=by
 obtain⟨p,cap',h1,h2,h3⟩:=h
 simp only[Value.slice.injEq]at h1
 obtain⟨rfl,rfl,rfl⟩:=h1
 refine⟨_,_,by rw[chunkK_length,hn],by rw[chunkK_length,hn];exact Nat.le_refl _,fun j s hj=>?_⟩
 have hj2:ks[k*16+j]?=some s:=by
  unfold chunkK at hj
  rw[List.getElem?_take]at hj
  split at hj
  ·rwa [List.getElem?_drop]at hj
  ·cases hj
 obtain⟨b',o',e1,e2,e3⟩:=h3 _ _ hj2
 simp only[Option.some.injEq,Addr.mk.injEq]at e1
 obtain⟨rfl,rfl,_⟩:=e1
 exact⟨b,o+k*16,rfl,e2,by rw[Nat.add_assoc];exact e3⟩
theorem StrRow.keep{w w':World}{v:Value}{l:List ByteArray}(h:StrRow w v l)(hz:w.heap.size≤w'.heap.size)(hk:∀b p n c,v=.slice (some ⟨b,p,none⟩) n c→b<w.heap.size→w'.heap[b]?=w.heap[b]?):StrRow w' v l:=by
 obtain⟨p,cap,h1,h2,h3⟩:=h
 refine⟨p,cap,h1,h2,fun j s hs=>?_⟩
 obtain⟨b,o,e1,e2,e3⟩:=h3 j s hs
 refine⟨b,o,e1,Nat.lt_of_lt_of_le e2 hz,?_⟩
 have:=hk b o _ _ (by rw[h1,e1]) e2
 unfold World.cell? at e3 ⊢
 rw[this];exact e3
theorem wpList_strAt{ops:Array Oper}{rest:List Oper}{o:Oper}{a:Act}{Q:Exit→Act→World→Prop}(hgd:o.guard=none)(s x:Operand)
  (ho:o.op=.call { callee:=.builtin .append,args:=#[s,x],argTypes:=#[29,29] }) (w:World) (B:Nat) (v:Value) (l:List ByteArray) (c:ByteArray) (b:Nat) (hs:a.eval s=v) (hrow:OwnS w B v l)
  (hx:a.eval x=.slice (some ⟨b,0,none⟩) 1 1) (hb:w.cell? ⟨b,0,none⟩=some (.string c)) (hlen:l.length+1≤1000000) (hB:B≤w.heap.size)
  (h:∀p cap w',OwnS w' B (.slice p (l.length+1) cap) (l++[c])→w.grownBy w' v.ownBlock→wpList Tryz.prog ops Q rest (a.put o.dst (.slice p (l.length+1) cap)) w'):wpList Tryz.prog ops Q (o :: rest) a w:=by
 obtain⟨i0,hi,hz0,hz1,hz2⟩:=info_parts info9
 refine wpList_append_own _ hgd s x 29 ho B 9 i0 (.string { data:=#[] }) 1 16 Tryz.underlying29 hi hz0 hz1 hz2 rfl (by decide) v l.length (sb l) hs hrow ⟨b,0,none⟩ 1 1 [.string c] hx rfl (fun j u hj=>?_) (strOne c) (by unfold maxLen;omega) (by omega) hB ?_
 ·match j,hj with
  |0,hj=>simp at hj;subst hj;exact hb
  |j+1,hj=>simp at hj
 intro v' w1 hown1 hgr _
 have hO:OwnS w1 B v' (l++[c]):=by
  unfold OwnS sb
  rw[List.map_append,List.length_append]
  exact hown1
 obtain⟨p,cap,e⟩:∃p cap,v'=.slice p (l.length+1) cap:=by
  rcases hown1.2 with⟨_,h0⟩ | ⟨gb,cap,cur,e,_⟩
  ·omega
  ·exact⟨_,cap,e⟩
 subst e
 exact h p cap w1 hO hgr
end Go.Proofs.YtlogjpmdfimgdaaGreatDoor
namespace Go.Proofs.YtlogjpmdfimgdaaGreatDoor
open Go Go.RowKit Go.Own Go.Own.Sr Go.Own.Fr Go.Shelf Go.Maps Go.WideMaps
attribute [local go_sem] Oper.semAt_some
def txK(g:ByteArray→Option A)(l:List ByteArray):ByteArray:=prt (trA (l.map fun k=>(k,g k)))
def txsB(g:ByteArray→Option A)(ks:List ByteArray):List ByteArray :=
 if ks=[]then [txK g []]else (List.range ((ks.length+15)/16)).map fun k=>txK g (chunkK ks k)
def TxI(w1:World)(tb:Nat)(g:ByteArray→Option A)(ks:List ByteArray)(pre:List Nat)(W:World):Prop :=
 ∃p cap,W.heap[tb]?=some (.cells #[.slice p pre.length cap] 29 (0,0))∧OwnS W w1.heap.size (.slice p pre.length cap) (pre.map fun k=>txK g (chunkK ks k))∧w1.grownBy W (some tb)
theorem TxI.own{w1:World}{tb:Nat}(ht:tb<w1.heap.size)(g:ByteArray→Option A)(ks:List ByteArray):OwnFrom w1.heap.size (TxI w1 tb g ks):=by
 rintro s W W' row ⟨p,cap,h1,h2,h3⟩ hg hr
 have hne:some tb≠row:=fun e=>by have:=(hr tb e.symm).1;omega
 refine⟨p,cap,?_,h2.kept hg ?_,h3.andThen hg (fun j hj=>Or.inl (hr j hj).1)⟩
 ·rw[hg.block tb (by have:=h3.size;omega) hne];exact h1
 ·rcases h2.2 with⟨e,_⟩ | ⟨gb,cap2,cur,e,hb,hgb,_⟩
  ·left;rw[e];rfl
  ·right
   intro h
   rw[e]at h
   obtain⟨_,o,ho,hc⟩:=hr gb h.symm
   rw[hgb]at ho
   cases ho
   cases hc
def TxQ(g:ByteArray→Option A)(w:World)(e:Ending)(w':World):Prop :=
 ∃v ks,e=.returned v∧(RisesA g (fun _=>true) ks∧ks.length≤1000000)∧StrRow w' v (txsB g ks)∧Below w.heap.size w w'
def slS(B:Nat)(s:ByteArray)(v:Value)(W:World):Prop:=∃b,v=.slice (some ⟨b,0,none⟩) 1 1∧B≤b∧b<W.heap.size∧W.cell? ⟨b,0,none⟩=some (.string s)
theorem slS_last(B:Nat)(s:ByteArray):Lasts (slS B s):=by
 rintro v W W' ⟨b,h1,h2,h3,h4⟩ hB
 exact⟨b,h1,h2,Nat.lt_of_lt_of_le h3 hB.size,(hB.cell (p:=⟨b,0,none⟩) h3).trans h4⟩
section
variable{ρ:Operand→Value}{W:World}{dst:Option Tmp}{ty:TypeId}{pos:String}{after:Array Edge}{guard:Option (Nat×Bool)}{v r:Value}{x:Operand}
theorem exec_ldT{T:TypeId}(h1:ρ x=v)(hr:(Instr.loadAt T v).run Tryz.prog W=.ok r W):(execOp ρ { dst,op:=.load T x,type:=ty,pos,after,guard }).run Tryz.prog W=.ok (.value r) W:=by
 have e:execOp ρ { dst,op:=.load T x,type:=ty,pos,after,guard }=(Instr.loadAt T (ρ x) >>= fun v=>pure (.value v)):=rfl
 rw[e,h1]
 simp[hr,Result.andThen]
theorem ld29{b n c:Nat}{p:Option Addr}(h:W.heap[b]?=some (.cells #[.slice p n c] 29 (0,0))):(Instr.loadAt 29 (.pointer (some ⟨b,0,none⟩))).run Tryz.prog W=.ok (.slice p n c) W:=by
 have c0:W.cell? ⟨b,0,none⟩=some (.slice p n c):=cell_of_one h
 simp[Instr.loadAt,go_sem,c0]
theorem ld84{b:Nat}{q:Option Nat}(h:W.heap[b]?=some (.cells #[.map q] 84 (0,0))):(Instr.loadAt 84 (.pointer (some ⟨b,0,none⟩))).run Tryz.prog W=.ok (.map q) W:=by
 have c0:W.cell? ⟨b,0,none⟩=some (.map q):=cell_of_one h
 simp[Instr.loadAt,go_sem,c0]
theorem bs29(s:ByteArray)(W:World):(Instr.buildSlice 29 1 #[(0,.string s)]).run Tryz.prog W=.ok (.slice (some ⟨W.heap.size,0,none⟩) 1 1) (W.alloc (.cells #[.string s] 9)):=by
 kernel_rfl
theorem exec_bs29{s:ByteArray}(h1:ρ x=.string s):(execOp ρ { dst,op:=.buildSlice 29 1 #[(0,x)],type:=ty,pos,after,guard }).run Tryz.prog W=.ok (.value (.slice (some ⟨W.heap.size,0,none⟩) 1 1)) (W.alloc (.cells #[.string s] 9)):=by
 unfold execOp
 simp only[List.map_toArray,List.map_cons,List.map_nil,h1,Sem.run_bind,bs29,Result.andThen_ok]
 rfl
end
set_option maxRecDepth 100000 in
set_option maxHeartbeats 4000000 in
theorem transactions_any(b m:Nat)(S:Nat→Prop)(g:ByteArray→Option A)(w:World)(h:MapA w S b m g)(hm:m≤1000000)(hk:∀k,(g k).isSome=true→k.size≤maxLen)
  (hs:∀l:List ByteArray,(∀k∈l,(g k).isSome=true)→l.length≤16→sz (trA (l.map fun k=>(k,g k))) 0≤140737488355328) :
  Calls Tryz.prog 64 #[.map (some b)] w (TxQ g w):=by
 have HH:=Lib.hid h
 obtain⟨_,f,hmv,hf⟩:=h
 obtain⟨W1,hW1⟩:∃W1,w.alloc (.cells #[.map (some b)] 84)=W1:=⟨_,rfl⟩
 have hB1:Below w.heap.size w W1:=hW1▸(Below.refl _ w).alloc (Nat.le_refl _) _
 have hz1:W1.heap.size=w.heap.size+1:=by rw[←hW1];simp
 have hx1:W1.heap[w.heap.size]?=some (.cells #[.map (some b)] 84 (0,0)):=hW1▸heap_alloc_new w _
 have c1:W1.cell? ⟨w.heap.size,0,none⟩=some (.map (some b)):=cell_of_one hx1
 have HR:=Lib.hid (risingA b m f (fun _=>true) W1 (hmv.below hB1) hm (fun s W _=>want88 s W))
 have HA:Hid (∀ks,Rises f (fun _=>true) ks→RisesA g (fun _=>true) ks):=Lib.hid fun ks h=>rises_A hf h
 have HB1:=Lib.hid hB1
 have HX1:=Lib.hid hx1
 have HS:=Lib.hid hs
 have HK:=Lib.hid hk
 clear hmv hf hB1 hx1 hs hk
 refine(callsIn_wide (n:=3)).1 (callsIn_of_wp_marks Tryz.func64 rfl trivial ?_ rfl)
 refine wpIn_wide.2 ?_
 simp only[Tryz.ntmps64,List.size_toArray,List.length_cons,List.length_nil,Nat.reduceAdd,Nat.reduceSub,Array.replicate_succ,Array.replicate_zero,List.push_toArray,List.append_toArray,List.nil_append,List.cons_append]
 go_wp2_with fail
 refine HR.out.mono ?_
 rintro e w2 ⟨kv,ks,rfl,hO,⟨hR,hn9⟩,hB2⟩
 have hks:=HA.out ks hR
 clear HR HA hR
 obtain⟨q,c,rfl⟩:∃q c,kv=.slice q ks.length c:=by
  rcases hO.2 with⟨e,h0⟩ | ⟨gb,cap,cur,e,_⟩
  ·exact⟨none,0,by rw[e,h0]⟩
  ·exact⟨_,cap,e⟩
 obtain⟨n,hn⟩:∃n,ks.length=n:=⟨_,rfl⟩
 have HKL:=Lib.hid hn9
 rw[hn]at hn9 ⊢
 have c2:w2.cell? ⟨w.heap.size,0,none⟩=some (.map (some b)):=(hB2.cell (p:=⟨w.heap.size,0,none⟩) (by rw[hz1];exact Nat.lt_succ_self _)).trans c1
 have HX2:=Lib.hid ((hB2.block w.heap.size (by rw[hz1];exact Nat.lt_succ_self _)).trans HX1.out)
 have HB2:=Lib.hid (HB1.out.trans (hB2.mono (by omega)))
 have HKS:=Lib.hid hks
 have HO:=Lib.hid hO
 have hz2:=hB2.size
 clear c1 hO hks hB2 hW1
 by_cases h0:n=0
 ·have HN:=Lib.hid (show ks=[]from List.eq_nil_of_length_eq_zero (hn.trans h0))
  clear hn hn9
  subst h0
  obtain⟨s9,hs9⟩:∃s,txK g []=s:=⟨_,rfl⟩
  have HP:Hid (Calls Tryz.prog 89 #[.map (some b),.slice none 0 0] w2 (PutQ s9 w2)):=Lib.hid (by
   rw[←hs9]
   exact putting_any b m S g (.slice none 0 0) [] w2 (HH.out.below (HB2.out.mono (Nat.le_refl _))) (OwnS.nil w2 w2.heap.size).strs (by simp) (fun k hk=>(List.not_mem_nil hk).elim) (HS.out [] (fun k hk=>(List.not_mem_nil hk).elim) (by simp)))
  have HS9:=Lib.hid hs9
  clear hs9
  go_wp2_with fail
  refine HP.out.mono ?_
  rintro e w3 ⟨rfl,hB3⟩
  have hQ:Hid (TxQ g w (.returned (.slice (some ⟨w3.heap.size,0,none⟩) 1 1)) (w3.alloc (.cells #[.string s9] 9))):=Lib.hid (by
   refine⟨_,ks,rfl,⟨HKS.out,HKL.out⟩,?_,(HB2.out.trans (hB3.mono (by omega))).alloc (by have:=hB3.size;omega) _⟩
   rw[HN.out,txsB,if_pos rfl,HS9.out]
   refine⟨_,1,rfl,Nat.le_refl _,fun j s hj=>⟨w3.heap.size,0,rfl,by simp,?_⟩⟩
   match j,hj with
   |0,hj=>simp at hj;subst hj;exact cell_of_one (heap_alloc_new w3 _)
   |j+1,hj=>simp at hj)
  clear hB3 HP HN HS9 HKS HO
  go_wp2
  show LeavesInM _ _ _ _ _ _ _ _ _
  exact⟨_,results_tmp (t:=2) rfl _ _ _,hQ.out⟩
 ·have hne:¬(n:Int)=0:=by omega
  obtain⟨gb,hq,hnc,hgb⟩:∃gb,q=some ⟨gb,0,none⟩∧n≤c∧gb<w2.heap.size:=by
   rcases HO.out.2 with⟨e,h1⟩ | ⟨gb,cap,cur,e,h1,h2,h3,_⟩
   ·omega
   ·simp only[Value.slice.injEq]at e
    obtain⟨e1,_,e3⟩:=e
    exact⟨gb,e1,by omega,(Array.getElem?_eq_some_iff.1 h2).1⟩
  subst hq
  have HSR:Hid (StrRow w2 (.slice (some ⟨gb,0,none⟩) n c) ks):=Lib.hid (by have:=HO.out.strs;rwa [hn]at this)
  obtain⟨W3,hW3⟩:∃W3,w2.alloc (.cells #[.slice none 0 0] 29)=W3:=⟨_,rfl⟩
  have hz3:W3.heap.size=w2.heap.size+1:=by rw[←hW3];simp
  go_wp2_with fail
  refine(chunk_any _ _ _ _).mono ?_
  rintro e W4' ⟨rfl,hW4⟩
  rw[hz3]
  obtain⟨W4,hW⟩:∃W4,W4'=W4:=⟨_,rfl⟩
  subst hW
  have hz4:W4'.heap.size=w2.heap.size+3:=by rw[hW4];simp[hz3]
  have hB3:Below w2.heap.size w2 W3:=hW3▸(Below.refl _ w2).alloc (Nat.le_refl _) _
  have hB4:Below W3.heap.size W3 W4':=hW4▸((Below.refl _ W3).alloc (Nat.le_refl _) _).alloc (by simp) _
  have hB24:=hB3.trans (hB4.mono (by omega))
  have htb:W4'.heap[w2.heap.size]?=some (.cells #[.slice none 0 0] 29 (0,0)):=(hB4.block _ (by omega)).trans (hW3▸heap_alloc_new w2 _)
  have hb1:W4'.heap[w2.heap.size+1]?=some (.cells #[.slice (some ⟨gb,0,none⟩) n c] 29 (0,0)):=by
   rw[←hz3,hW4,heap_alloc_old _ _ (by simp)];exact heap_alloc_new W3 _
  have hb2:W4'.heap[w2.heap.size+2]?=some (.cells #[.int .i64 16] 3 (0,0)):=by
   rw[hW4,show w2.heap.size+2=(W3.alloc (.cells #[.slice (some ⟨gb,0,none⟩) n c] 29)).heap.size by simp[hz3]];exact heap_alloc_new _ _
  have hbx:W4'.heap[w.heap.size]?=some (.cells #[.map (some b)] 84 (0,0)):=(hB24.block _ (by omega)).trans HX2.out
  have hsr4:StrRow W4' (.slice (some ⟨gb,0,none⟩) n c) ks:=HSR.out.below hB24
  have hmap4:MapA W4' S b m g:=HH.out.below (HB2.out.trans (hB24.mono (by omega)))
  have HT:Hid (∀(x:Nat) (W:World),W4'.grownBy W (some w2.heap.size)→∀(W':World),Below W.heap.size W W'→Calls Tryz.prog 89 #[.map (some b),.slice (some ⟨gb,x*16,none⟩) (min 16 (n-x*16)) (min 16 (n-x*16))] W' (PutQ (txK g (chunkK ks x)) W')):=Lib.hid fun x W hg W' hB=>by
   have hWW:=hg.size
   have hBW:Below w.heap.size w W:=(HB2.out.trans (hB24.mono (by omega))).grown hg (by omega) (fun k hk=>by cases hk;omega)
   have hsr:StrRow W (.slice (some ⟨gb,x*16,none⟩) (min 16 (n-x*16)) (min 16 (n-x*16))) (chunkK ks x):=by
    have h1:=strRow_chunk hn hsr4 x
    rw[Nat.zero_add]at h1
    refine h1.keep hWW (fun b' p' n' c' e hlt=>hg.block b' hlt (fun e2=>?_))
    simp only[Value.slice.injEq,Option.some.injEq,Addr.mk.injEq]at e
    simp only[Option.some.injEq]at e2
    omega
   refine putting_any b m S g _ (chunkK ks x) W' (HH.out.below (hBW.trans (hB.mono (by omega)))) (hsr.below hB) (by rw[chunkK_length];omega) (fun k hk=>?_) (HS.out _ (fun k hk=>?_) (by rw[chunkK_length];omega))
   ·have h1:=((HKS.out.2 k).1 (chunkK_mem hk)).1
    exact⟨HK.out k h1,h1⟩
   ·exact((HKS.out.2 k).1 (chunkK_mem hk)).1
  have hbw:=HH.out.lt
  clear hW4 hW3 hB3 hB4
  go_wp2_with fail
  refine wp_chunks (tp:=16) gb 0 n c (w2.heap.size+1) (w2.heap.size+1+1) hnc hn9 hb1 hb2 rfl (TxI W4' w2.heap.size g ks) (TxI.own (by omega) g ks) ?start
   (fun x=>{ tmps:=#[.map (some b),.pointer (some ⟨w.heap.size,0,none⟩),.slice none 0 0,.slice (some ⟨gb,0,none⟩) n c,.pointer (some ⟨w2.heap.size,0,none⟩),.slice (some ⟨gb,x*16,none⟩) (min 16 (n-x*16)) (min 16 (n-x*16)),.map (some b),.slice (some ⟨gb,0,none⟩) n c,.slice (some ⟨gb,0,none⟩) n c,.int .i64 (n:Int),.bool false,undef,undef,undef,.slice (some ⟨gb,0,none⟩) n c,
    .func (.func 125) #[] #[.pointer (some ⟨w2.heap.size+1,0,none⟩),.pointer (some ⟨w2.heap.size+1+1,0,none⟩)],.slice (some ⟨gb,x*16,none⟩) (min 16 (n-x*16)) (min 16 (n-x*16)),undef,undef,undef,undef,undef,undef,undef],defers:=[] }) ?assign ?body ?done
  case start=>exact⟨none,0,htb,OwnS.nil _ _,World.grownBy.refl _ _⟩
  case assign =>
   intro lo x W K0 hK0
   refine region_rnd_lit (by kernel_rfl) (by rintro⟨_,_,h⟩;exact h) ?_
   rw[Nat.zero_add]
   go_wp2
   exact hK0
  case body =>
   intro lo pre x W hW hlen
   obtain⟨p,cap,t1,t2,t3⟩:=hW
   have hpl:pre.length≤100000:=by omega
   obtain⟨s9,hs9⟩:∃s,txK g (chunkK ks x)=s:=⟨_,rfl⟩
   have HC:=Lib.hid (HT.out x W t3)
   obtain⟨l,hl⟩:∃l,(pre.map fun k=>txK g (chunkK ks k))=l:=⟨_,rfl⟩
   have hll:pre.length=l.length:=by rw[←hl,List.length_map]
   rw[hl]at t2
   rw[hll]at t1 t2 hpl
   have hown:∀j,(Value.slice p l.length cap).ownBlock=some j→W4'.heap.size≤j∧∃o:Obj,W.heap[j]?=some o∧o.isCells=true:=fun j hj=>by
    rcases t2.2 with⟨e,_⟩ | ⟨gb,cap2,cur,e,hb,hgb,_⟩
    ·rw[e]at hj;cases hj
    ·rw[e]at hj
     have hj2:gb=j:=by simpa [Value.ownBlock]using hj
     subst hj2
     exact⟨hb,_,hgb,rfl⟩
   have FIN:Hid (∀(a':Act) (W2 W3:World) (p2:Option Addr) (cap2:Nat),Below W.heap.size W W2→W2.grownBy W3 (Value.slice p l.length cap).ownBlock→OwnS W3 W4'.heap.size (.slice p2 (l.length+1) cap2) (l++[s9])→ownPostK (Keeps2 (w2.heap.size+1) (w2.heap.size+1+1)) (TxI W4' w2.heap.size g ks) (fun _ _ _=>False) (pre++[x]) W .normal a' (W3.setCell ⟨w2.heap.size,0,none⟩ (.slice p2 (l.length+1) cap2))):=Lib.hid fun a' W2 W3 p2 cap2 k1 k2 k3=>by
    have hs1:=k1.size
    have hs2:=k2.size
    have hs0:=t3.size
    have hsame:∀k,k<W.heap.size→k≠w2.heap.size→some k≠(Value.slice p l.length cap).ownBlock→(W3.setCell ⟨w2.heap.size,0,none⟩ (.slice p2 (l.length+1) cap2)).heap[k]?=W.heap[k]?:=fun k hk h1 h2=>by
     rw[heap_setCell_other W3 ⟨w2.heap.size,0,none⟩ k _ h1,k2.block k (by omega) h2,k1.block k hk]
    have hne:∀k,k<W4'.heap.size→some k≠(Value.slice p l.length cap).ownBlock:=fun k hk e=>by have:=(hown k e.symm).1;omega
    have ht3:W3.heap[w2.heap.size]?=some (.cells #[.slice p l.length cap] 29 (0,0)):=by rw[k2.block _ (by omega) (hne _ (by omega)),k1.block _ (by omega)];exact t1
    refine⟨⟨by simp;omega,fun k o hk hc=>?_⟩,⟨fun o ho=>?_,fun o ho=>?_⟩,⟨p2,cap2,?_,?_,?_⟩⟩
    ·rw[hsame k (Array.getElem?_eq_some_iff.1 hk).1 (fun e=>?_) (fun e=>?_)]
     ·exact hk
     ·rw[e,t1]at hk;cases hk;cases hc
     ·obtain⟨_,o2,ho2,hc2⟩:=hown k e.symm
      rw[hk]at ho2;cases ho2;rw[hc]at hc2;cases hc2
    ·rw[hsame _ (by omega) (by omega) (hne _ (by omega))];exact ho
    ·rw[hsame _ (by omega) (by omega) (hne _ (by omega))];exact ho
    ·rw[List.length_append,hll];exact heap_setCell_same W3 w2.heap.size 0 _ 29 _ ht3
    ·rw[List.map_append,hl,List.length_append,hll]
     have h9:OwnS (W3.setCell ⟨w2.heap.size,0,none⟩ (.slice p2 (l.length+1) cap2)) W4'.heap.size (.slice p2 (l.length+1) cap2) (l++[s9]):=k3.kept (grownBy_setC W3 w2.heap.size (.slice p2 (l.length+1) cap2)) (Or.inr fun e=>by have:=(k3.lt _ e).1;omega)
     show OwnS _ _ (.slice p2 (l.length+1) cap2) (l++[txK g (chunkK ks x)])
     rw[hs9]
     exact h9
    ·refine((t3.andThen (grown_of_below k1 none) (fun j hj=>by cases hj)).andThen k2 (fun j hj=>Or.inl (hown j hj).1)).andThen (grownBy_setC W3 w2.heap.size _) (fun j hj=>Or.inr hj)
   have HCF:Hid (∀W2 W5:World,Below W.heap.size W W2→W2.grownBy W5 (Value.slice p l.length cap).ownBlock→W5.cell? ⟨w2.heap.size,0,none⟩=some (.slice p l.length cap)∧W5.frozen? ⟨w2.heap.size,0,none⟩=false):=Lib.hid fun W2 W5 k1 k2=>by
    have hs1:=k1.size
    have hs0:=t3.size
    have h5:W5.heap[w2.heap.size]?=some (.cells #[.slice p l.length cap] 29 (0,0)):=by rw[k2.block _ (by omega) (fun e=>by have:=(hown _ e.symm).1;omega),k1.block _ (by omega)];exact t1
    exact⟨cell_of_one h5,by simp[World.frozen?,h5]⟩
   have hLO:¬LetsOut (ownPostK (Keeps2 (w2.heap.size+1) (w2.heap.size+1+1)) (TxI W4' w2.heap.size g ks) (fun _ _ _=>False) (pre++[x]) W):=by rintro⟨_,_,h⟩;exact h
   generalize ownPostK (Keeps2 (w2.heap.size+1) (w2.heap.size+1+1)) (TxI W4' w2.heap.size g ks) (fun _ _ _=>False) (pre++[x]) W=Q0 at FIN hLO ⊢
   have hbx':W.heap[w.heap.size]?=some (.cells #[.map (some b)] 84 (0,0)):=(t3.block _ (by omega) (by simp;omega)).trans hbx
   have hwz:=t3.size
   have HBX:=Lib.hid hbx'
   have HT1:=Lib.hid t1
   have HT2:=Lib.hid t2
   rw[hs9]at HC
   clear hbx' t1 t2 t3 hown hl hs9
   refine wpIn_block ?_
   refine region_rnd (by kernel_rfl) (by kernel_rfl) (by rintro⟨a,w,h⟩;exact hLO ⟨a,w,h⟩) ?_
   refine any_fine_drop 5 (TL [eqv (.slice p l.length cap),eqv (.map (some b)),eqv (.slice (some ⟨gb,x*16,none⟩) (min 16 (n-x*16)) (min 16 (n-x*16))),eqv (.string s9),slS W.heap.size s9]) (by kernel_rfl) (by kernel_rfl) (by kernel_rfl) (TL_last (List.forall_mem_cons.2 ⟨eqv_last _,List.forall_mem_cons.2 ⟨eqv_last _,List.forall_mem_cons.2 ⟨eqv_last _,List.forall_mem_cons.2 ⟨eqv_last _,List.forall_mem_cons.2 ⟨slS_last _ _,fun _ h=>(List.not_mem_nil h).elim⟩⟩⟩⟩⟩)) (TL_no_guard (by kernel_rfl)) ?_ ?_
   ·intro ix o ho a W' hB hdep hfix
    simp only[List.take_succ_cons,List.take_zero]at ho hdep hfix
    match ix,ho with
    |0,ho =>
     obtain rfl:=Option.some.inj ho
     exact lays_eq _ rfl (exec_ldT (hfix 4 (by decide +kernel)) (ld29 ((hB.block _ (by omega)).trans HT1.out)))
    |1,ho =>
     obtain rfl:=Option.some.inj ho
     exact lays_eq _ rfl (exec_ldT (hfix 1 (by decide +kernel)) (ld84 ((hB.block _ (by omega)).trans HBX.out)))
    |2,ho =>
     obtain rfl:=Option.some.inj ho
     exact lays_eq _ rfl (exec_move (hfix 5 (by decide +kernel)))
    |3,ho =>
     obtain rfl:=Option.some.inj ho
     have e1:a.tmps.getD 18 undef=.map (some b):=hdep 1 _ 18 rfl rfl (by decide +kernel)
     have e2:a.tmps.getD 19 undef=.slice (some ⟨gb,x*16,none⟩) (min 16 (n-x*16)) (min 16 (n-x*16)):=hdep 2 _ 19 rfl rfl (by decide +kernel)
     refine lays_call #[.map (some b),.slice (some ⟨gb,x*16,none⟩) (min 16 (n-x*16)) (min 16 (n-x*16))] (by simp[Act.eval,e1,e2]) (by kernel_rfl) ((HC.out W' hB).mono ?_)
     rintro e W2 ⟨he,hB2⟩
     exact⟨_,he,hB2,rfl⟩
    |4,ho =>
     obtain rfl:=Option.some.inj ho
     have e1:a.tmps.getD 20 undef=.string s9:=hdep 3 _ 20 rfl rfl (by decide +kernel)
     exact lays_value (v:=.slice (some ⟨W'.heap.size,0,none⟩) 1 1) (W':=W'.alloc (.cells #[.string s9] 9)) (exec_bs29 e1) ((Below.refl _ W').alloc (Nat.le_refl _) _) ⟨_,rfl,hB.size,by simp,cell_of_one (heap_alloc_new W' _)⟩
    |ix+5,ho=>simp at ho
   ·intro a W' hB hd hsz hfix hTT
    simp only[List.take_succ_cons,List.take_zero,List.drop_succ_cons,List.drop_zero]at hfix hTT ⊢
    have f4:a.tmps.getD 4 undef=.pointer (some ⟨w2.heap.size,0,none⟩):=hfix 4 (by decide +kernel)
    have f17:a.tmps.getD 17 undef=.slice p l.length cap:=hTT 0 _ 17 rfl rfl
    have g21:slS W.heap.size s9 (a.tmps.getD 21 undef) W':=hTT 4 _ 21 rfl rfl
    rw[frame_lit a 24 hsz hd]
    clear hfix hTT hsz hd
    simp only[List.range,List.range.loop,List.map]
    generalize a.tmps=t at *
    simp only[f4,f17]
    clear f4 f17
    obtain⟨b9,e9,k1,k2,k3⟩:=g21
    simp only[e9]
    have HO2:=Lib.hid (HT2.out.below hB)
    have HC3:=Lib.hid k3
    have HC5:=Lib.hid fun W5=>HCF.out W' W5 hB
    have HF5:=Lib.hid fun a' W5=>FIN.out a' W' W5
    have hsz':=hB.size
    go_wp2_with (refine wpList_strAt rfl (.tmp 17) (.tmp 21) rfl W' W4'.heap.size (.slice p l.length cap) l s9 b9 rfl HO2.out rfl HC3.out (by omega) (by omega) ?_)
    intro p2 cap2 W5 hO5 hg5
    rw[←hz4]at hO5
    obtain⟨m0,m1⟩:=HC5.out W5 hg5
    have HQ:=Lib.hid fun a'=>HF5.out a' W5 p2 cap2 hB hg5 hO5
    clear hO5 hg5 HO2 HC3 HC5 HF5
    go_wp2
    exact HQ.out _
  case done =>
   intro D W hD hW hK0
   obtain⟨p,cap,t1,t2,t3⟩:=hW
   rw[List.length_range]at t1 t2
   have ct:W.cell? ⟨w2.heap.size,0,none⟩=some (.slice p ((n+15)/16) cap):=cell_of_one t1
   have hWW:=t3.size
   have hQ:Hid (TxQ g w (.returned (.slice p ((n+15)/16) cap)) (W.putObj D (.deferred none))):=Lib.hid (by
    have hBW:Below w.heap.size w W:=(HB2.out.trans (hB24.mono (by omega))).grown t3 (by omega) (fun k hk=>by cases hk;omega)
    refine⟨_,ks,rfl,⟨HKS.out,HKL.out⟩,?_,hBW.grown (grownBy_putObj' W D _) (by have:=hBW.size;omega) (fun k hk=>by cases hk;omega)⟩
    have hks:¬ks=[]:=fun e=>h0 (by rw[←hn,e];rfl)
    rw[txsB,if_neg hks,hn]
    have hO5:OwnS W W4'.heap.size _ _:=t2
    refine hO5.strs.keep (by simp) (fun b' p' n' c' e hlt=>World.putObj_heap_other (fun e2=>?_))
    rcases hO5.2 with⟨e3,_⟩ | ⟨gb,cap2,cur,e3,hb,hgb,_⟩
    ·rw[e3]at e;cases e
    ·rw[e3]at e
     simp only[Value.slice.injEq,Option.some.injEq,Addr.mk.injEq]at e
     have:gb=D:=by omega
     subst this
     rw[hgb]at hK0;cases hK0)
   have HK0:=Lib.hid hK0
   clear t1 t2 t3 hK0
   go_wp2
   show LeavesInM _ _ _ _ _ _ _ _ _
   exact leaves_one W D HK0.out ⟨_,results_tmp (t:=2) rfl _ _ _,hQ.out⟩
end Go.Proofs.YtlogjpmdfimgdaaGreatDoor
namespace Go.Proofs.YtlogjpmdfimgdaaGreatDoor
open Go Go.RowKit Go.Own Go.Own.Fr Go.Maps Go.WideMaps
section
variable{Sg:Type}{base:Nat}{JS:(Nat→Prop)→World→Addr→Sg→Prop}{good:Sg→Prop}{tx:Sg→List (List Nat)}{apE:Sg→List Nat→Int}{apS:Sg→List Nat→Sg}{anE:Sg→List (List Nat)→Int}{anS:Sg→List (List Nat)→Sg}
theorem MapV.same{w w':World}{b n:Nat}{f:ByteArray→Option Value}(h:MapV w b n f)(hb:w'.heap[b]?=w.heap[b]?):MapV w' b n f:=by
 obtain⟨D,⟨es,cl,h1,F,h2,h3⟩,h4⟩:=h
 exact⟨D,⟨es,cl,hb.trans h1,F,h2,h3⟩,h4⟩
theorem MapA.same{w w':World}{S:Nat→Prop}{b n:Nat}{g:ByteArray→Option A}(h:MapA w S b n g)(hz:w.heap.size≤w'.heap.size)(hb:w'.heap[b]?=w.heap[b]?)(hS:∀k,S k→k<w.heap.size→w'.heap[k]?=w.heap[k]?):MapA w' S b n g :=
 h.keep h.1 (fun _ h _=>h) hz hS (fun _ hm=>hm.same hb)
def Ft(O S:Nat→Prop)(sb b k:Nat):Prop:=O k∨S k∨k=b∨k=sb
def anewR(x:Int)(g0 g:ByteArray→Option A):Int×(ByteArray→Option A):=if x=0 then (0,g)else if x=7 then (7,fun _=>none)else (6,g0)
def AnewQ(base:Nat)(JS:(Nat→Prop)→World→Addr→Sg→Prop)(anE:Sg→List (List Nat)→Int)(anS:Sg→List (List Nat)→Sg)(s:Sg)(sb:Nat)(jp:Addr)(F:Nat→Prop)(M:Nat)(g0 g:ByteArray→Option A)(w:World)(e:Ending)(w':World):Prop :=
 ∃ks O' S' b' n',RisesA g (fun _=>true) ks∧e=.returned (.int .i64 (anewR (anE s ((txsB g ks).map bys)) g0 g).1)∧StoreAt base JS O' S' w' sb jp b' n' (anS s ((txsB g ks).map bys)) (anewR (anE s ((txsB g ks).map bys)) g0 g).2∧n'≤M∧Chg F w w'∧∀k,Ft O' S' sb b' k→F k∨w.heap.size≤k
theorem txsB_length(g:ByteArray→Option A)(ks:List ByteArray)(h:ks.length≤1000000):((txsB g ks).map bys).length≤100000:=by
 unfold txsB
 split
 ·simp
 ·simp;omega
def TxP(g:ByteArray→Option A)(v:Value)(W:World):Prop:=∃ks,RisesA g (fun _=>true) ks∧ks.length≤1000000∧StrRow W v (txsB g ks)
theorem TxP_last(g:ByteArray→Option A):Lasts (TxP g):=by
 rintro v W W' ⟨ks,h1,h2,h3⟩ hB
 exact⟨ks,h1,h2,h3.below hB⟩
theorem fa86_0(b:Nat)(W:World):(Instr.fieldAt 86 (.pointer (some ⟨b,0,none⟩)) 0).run Tryz.prog W=.ok (.pointer (some ⟨b,0,none⟩)) W:=by
 simp[go_sem]
theorem ld73{W:World}{b:Nat}{q:Option Addr}(h:W.cell? ⟨b,0,none⟩=some (.pointer q)):(Instr.loadAt 73 (.pointer (some ⟨b,0,none⟩))).run Tryz.prog W=.ok (.pointer q) W:=by
 simp[Instr.loadAt,go_sem,h]
section
variable{ρ:Operand→Value}{W:World}{dst:Option Tmp}{ty:TypeId}{pos:String}{after:Array Edge}{guard:Option (Nat×Bool)}{v r:Value}{x:Operand}
theorem exec_fdT{T k:Nat}(h1:ρ x=v)(hr:(Instr.fieldAt T v k).run Tryz.prog W=.ok r W):(execOp ρ { dst,op:=.fieldAddr T x k,type:=ty,pos,after,guard }).run Tryz.prog W=.ok (.value r) W:=by
 simp[execOp,h1,hr,Result.andThen]
theorem exec_ncT{b o:Nat}(h1:ρ x=.pointer (some ⟨b,o,none⟩)):(execOp ρ { dst,op:=.nilCheck x,type:=ty,pos,after,guard }).run Tryz.prog W=.ok (.value (.pointer (some ⟨b,o,none⟩))) W:=by
 simp[execOp,h1,go_sem]
end
set_option maxRecDepth 100000 in
set_option maxHeartbeats 4000000 in
theorem anew_any(HJ:Jour base JS good tx apE apS anE anS)(O S:Nat→Prop)(sb b n vb m:Nat)(jp:Addr)(s:Sg)(g0 g:ByteArray→Option A)(w:World)(H:StoreAt base JS O S w sb jp b n s g0)(hgood:good s)(hm:MapA w S vb m g)(hmm:m≤1000000)(hv1:¬O vb)(hv2:sb≠vb)(hv3:base≤vb)(hbw:base≤w.heap.size)
  (hk:∀k,(g k).isSome=true→k.size≤maxLen) (hs:∀l:List ByteArray,(∀k∈l,(g k).isSome=true)→l.length≤16→sz (trA (l.map fun k=>(k,g k))) 0≤140737488355328) :
  Calls Tryz.prog 36 #[.pointer (some ⟨sb,0,none⟩),.map (some vb)] w (AnewQ base JS anE anS s sb jp (fun k=>Ft O S sb b k∨k=vb) (max n m) g0 g w):=by
 have HT:=Lib.hid fun W (hB:Below w.heap.size w W)=>transactions_any vb m S g W (hm.below hB) hmm hk hs
 obtain⟨c0,c1⟩:=cells2 H.at_.2
 have hsl:=H.at_.1
 have HH:=Lib.hid H
 have HM:=Lib.hid hm
 have HC:=Lib.hid (And.intro c0 c1)
 clear H hm hk hs c0 c1
 go_enter Tryz.func36,Tryz.ntmps36
 go_wp2_with fail
 refine wp_region_fine_drop 6 (TL [eqv (.pointer (some ⟨sb,0,none⟩)),eqv (.pointer (some ⟨sb,0,none⟩)),eqv (.pointer (some ⟨sb,0,none⟩)),eqv (.pointer (some jp)),eqv (.map (some vb)),TxP g]) (by kernel_rfl) (by kernel_rfl) (by kernel_rfl) (by kernel_rfl) (TL_last (List.forall_mem_cons.2 ⟨eqv_last _,List.forall_mem_cons.2 ⟨eqv_last _,List.forall_mem_cons.2 ⟨eqv_last _,List.forall_mem_cons.2 ⟨eqv_last _,List.forall_mem_cons.2 ⟨eqv_last _,List.forall_mem_cons.2 ⟨TxP_last _,fun _ h=>(List.not_mem_nil h).elim⟩⟩⟩⟩⟩⟩)) (TL_no_guard (by kernel_rfl)) ?_ ?_
 ·intro ix o ho a W' hB hdep hfix
  simp only[List.take_succ_cons,List.take_zero]at ho hdep hfix
  match ix,ho with
  |0,ho =>
   obtain rfl:=Option.some.inj ho
   exact lays_eq _ rfl (exec_move (hfix 0 (by decide +kernel)))
  |1,ho =>
   obtain rfl:=Option.some.inj ho
   have e1:a.tmps.getD 5 undef=.pointer (some ⟨sb,0,none⟩):=hdep 0 _ 5 rfl rfl (by decide +kernel)
   exact lays_eq _ rfl (exec_ncT e1)
  |2,ho =>
   obtain rfl:=Option.some.inj ho
   have e1:a.tmps.getD 6 undef=.pointer (some ⟨sb,0,none⟩):=hdep 1 _ 6 rfl rfl (by decide +kernel)
   exact lays_eq _ rfl (exec_fdT e1 (fa86_0 sb W'))
  |3,ho =>
   obtain rfl:=Option.some.inj ho
   have e1:a.tmps.getD 7 undef=.pointer (some ⟨sb,0,none⟩):=hdep 2 _ 7 rfl rfl (by decide +kernel)
   exact lays_eq _ rfl (exec_ldT e1 (ld73 ((hB.cell (p:=⟨sb,0,none⟩) hsl).trans HC.out.1)))
  |4,ho =>
   obtain rfl:=Option.some.inj ho
   exact lays_eq _ rfl (exec_move (hfix 1 (by decide +kernel)))
  |5,ho =>
   obtain rfl:=Option.some.inj ho
   have e1:a.tmps.getD 9 undef=.map (some vb):=hdep 4 _ 9 rfl rfl (by decide +kernel)
   refine lays_call #[.map (some vb)] (by simp[Act.eval,e1]) (by kernel_rfl) ((HT.out W' hB).mono ?_)
   rintro e W2 ⟨v,ks,he,⟨hR,hkl⟩,hSR,hB2⟩
   exact⟨_,he,hB2,ks,hR,hkl,hSR⟩
  |ix+6,ho=>simp at ho
 ·intro a W3 hB hd hsz hfix hTT
  simp only[List.take_succ_cons,List.take_zero,List.drop_succ_cons,List.drop_zero]at hfix hTT ⊢
  have f0:a.tmps.getD 0 undef=.pointer (some ⟨sb,0,none⟩):=hfix 0 (by decide +kernel)
  have f1:a.tmps.getD 1 undef=.map (some vb):=hfix 1 (by decide +kernel)
  have f8:a.tmps.getD 8 undef=.pointer (some jp):=hTT 3 _ 8 rfl rfl
  have g10:TxP g (a.tmps.getD 10 undef) W3:=hTT 5 _ 10 rfl rfl
  rw[frame_lit a 22 hsz hd]
  clear hfix hTT hsz hd
  simp only[List.range,List.range.loop,List.map]
  generalize a.tmps=t at *
  simp only[f0,f1,f8]
  clear f0 f1 f8
  obtain⟨ks,hR,hkl,hSR⟩:=g10
  generalize t.getD 10 undef=v at *
  have hJ3:=HJ.keep O w W3 jp s HH.out.jour (ext_below hB) (fun k hk=>hB.block k (HJ.lt O w jp s HH.out.jour k hk).2) (fun k hk=>hB.block k (by omega))
  obtain⟨ts,hts⟩:∃ts,(txsB g ks).map bys=ts:=⟨_,rfl⟩
  have hmk:ts.map mkS=txsB g ks:=by
   rw[←hts,List.map_map]
   exact(List.map_congr_left fun s _=>mkS_bys s).trans (List.map_id _)
  have HA:=Lib.hid (HJ.anew O W3 jp s v ts hJ3 hgood (fun t ht=>by rw[←hts]at ht;obtain⟨s,_,rfl⟩:=List.mem_map.1 ht;exact bys_lt s) (by rw[←hts];exact txsB_length g ks hkl) (by rw[hmk];exact hSR))
  obtain⟨x,hx⟩:∃x,anE s ts=x:=⟨_,rfl⟩
  rw[hx]at HA
  have hz3:=hB.size
  have HF:Hid (∀(O':Nat→Prop) (W4:World),JS O' W4 jp (anS s ts)→Chg O W3 W4→(∀k,O' k→O k∨W3.heap.size≤k) →
    SAt W4 sb (some jp) b∧(x=0→AnewQ base JS anE anS s sb jp (fun k=>Ft O S sb b k∨k=vb) (max n m) g0 g w (.returned (.int .i64 0)) (W4.setCell ⟨sb,1,none⟩ (.map (some vb)))) ∧
    (x=7→∀W5,SAt W5 sb (some jp) W4.heap.size→MapA W5 (fun _=>False) W4.heap.size 0 (fun _=>none)→W4.grownBy W5 (some sb)→AnewQ base JS anE anS s sb jp (fun k=>Ft O S sb b k∨k=vb) (max n m) g0 g w (.returned (.int .i64 7)) W5) ∧
    (x≠0→x≠7→AnewQ base JS anE anS s sb jp (fun k=>Ft O S sb b k∨k=vb) (max n m) g0 g w (.returned (.int .i64 6)) W4)):=Lib.hid fun O' W4 k1 k2 k3=>by
   obtain⟨Hat,Hmap,Hj,hosb,hob,hos,hne,hssb,hbb,hbsb,hbs⟩:=HH.out
   have hm:=HM.out
   have hz4:=k2.1.size
   have hbl:=Hmap.lt
   have hvl:=hm.lt
   have hsame:∀k,k<w.heap.size→¬O k→W4.heap[k]?=w.heap[k]?:=fun k hk ho=>(k2.2 k (by omega) ho).trans (hB.block k hk)
   have hE4:Ext w W4:=(ext_below hB).trans k2.1
   have hS4:SAt W4 sb (some jp) b:=⟨by omega,(hsame sb hsl hosb).trans Hat.2⟩
   have hSS:∀ {b:Nat} {n:Nat} {g:ByteArray→Option A},MapA w S b n g→¬O b→MapA W4 (fun k=>S k∧k<w.heap.size) b n g:=fun {b n g} h ho =>
    h.keep (fun hk=>h.1 hk.1) (fun k h1 h2=>⟨h1,h2⟩) (by omega) (fun k h1 h2=>hsame k h2 (hos k h1)) (fun f hf=>hf.same (hsame _ hf.lt ho))
   have hO':∀k,k<w.heap.size→¬O k→¬O' k:=fun k hk ho h=>by
    rcases k3 k h with h | h
    ·exact ho h
    ·omega
   have hset:Ext W4 (W4.setCell ⟨sb,1,none⟩ (.map (some vb))):=⟨rfl,rfl,rfl,by simp⟩
   have hoth:∀k,k≠sb→(W4.setCell ⟨sb,1,none⟩ (.map (some vb))).heap[k]?=W4.heap[k]?:=fun k hk=>heap_setCell_other W4 ⟨sb,1,none⟩ k _ hk
   refine⟨hS4,fun h0=>?_,fun h7 W5 j1 j2 j3=>?_,fun h0 h7=>?_⟩
   ·refine⟨ks,O',fun k=>S k∧k<w.heap.size,vb,m,hR,?_,?_,Nat.le_max_right _ _,⟨hE4.trans hset,fun k hk hF=>?_⟩,fun k hk=>?_⟩
    ·rw[hts,hx,h0];rfl
    ·rw[hts,hx,h0]
     exact
     {at_:=⟨by simp;omega,heap_setCell_same W4 sb 1 _ 86 _ hS4.2⟩
      map:=(hSS hm hv1).same (by simp) (hoth vb (fun e=>hv2 e.symm)) (fun k hk _=>hoth k (fun e=>hssb (e▸hk.1)))
      jour:=HJ.keep O' W4 _ jp _ k1 hset (fun k hk=>hoth k (fun e=>hO' sb hsl hosb (e▸hk))) (fun k hk=>hoth k (by omega))
      osb:=hO' sb hsl hosb
      ob:=hO' vb hvl hv1
      os:=fun k hk=>hO' k hk.2 (hos k hk.1)
      ne:=hv2
      ssb:=fun h=>hssb h.1
      bb:=hv3
      bsb:=hbsb
      bs:=fun k hk=>hbs k hk.1 }
    ·rw[hoth k (fun e=>hF (Or.inl (Or.inr (Or.inr (Or.inr e)))))]
     exact hsame k hk (fun h=>hF (Or.inl (Or.inl h)))
    ·rcases hk with h | h | h | h
     ·rcases k3 k h with h | h
      ·exact Or.inl (Or.inl (Or.inl h))
      ·exact Or.inr (by omega)
     ·exact Or.inl (Or.inl (Or.inr (Or.inl h.1)))
     ·exact Or.inl (Or.inr h)
     ·exact Or.inl (Or.inl (Or.inr (Or.inr (Or.inr h))))
   ·have hz5:=j3.size
    have hn5:∀k,k<W4.heap.size→k≠sb→W5.heap[k]?=W4.heap[k]?:=fun k hk hne=>j3.block k hk (fun e=>hne (by cases e;rfl))
    refine⟨ks,O',fun _=>False,W4.heap.size,0,hR,?_,?_,Nat.zero_le _,⟨hE4.trans (ext_grown j3),fun k hk hF=>?_⟩,fun k hk=>?_⟩
    ·rw[hts,hx,h7];rfl
    ·rw[hts,hx,h7]
     exact
     {at_:=j1
      map:=j2
      jour:=HJ.keep O' W4 _ jp _ k1 (ext_grown j3) (fun k hk=>hn5 k (HJ.lt O' W4 jp _ k1 k hk).2 (fun e=>hO' sb hsl hosb (e▸hk))) (fun k hk=>hn5 k (by omega) (by omega))
      osb:=hO' sb hsl hosb
      ob:=fun h=>by have:=(HJ.lt O' W4 jp _ k1 _ h).2;omega
      os:=fun k hk=>hk.elim
      ne:=by omega
      ssb:=fun h=>h
      bb:=by omega
      bsb:=hbsb
      bs:=fun k hk=>hk.elim }
    ·rw[hn5 k (by omega) (fun e=>hF (Or.inl (Or.inr (Or.inr (Or.inr e)))))]
     exact hsame k hk (fun h=>hF (Or.inl (Or.inl h)))
    ·rcases hk with h | h | h | h
     ·rcases k3 k h with h | h
      ·exact Or.inl (Or.inl (Or.inl h))
      ·exact Or.inr (by omega)
     ·exact h.elim
     ·exact Or.inr (by omega)
     ·exact Or.inl (Or.inl (Or.inr (Or.inr (Or.inr h))))
   ·refine⟨ks,O',fun k=>S k∧k<w.heap.size,b,n,hR,?_,?_,Nat.le_max_left _ _,⟨hE4,fun k hk hF=>hsame k hk (fun h=>hF (Or.inl (Or.inl h)))⟩,fun k hk=>?_⟩
    ·rw[hts,hx];unfold anewR;rw[if_neg h0,if_neg h7]
    ·rw[hts,hx];unfold anewR;rw[if_neg h0,if_neg h7]
     exact
     {at_:=hS4
      map:=hSS Hmap hob
      jour:=k1
      osb:=hO' sb hsl hosb
      ob:=hO' b hbl hob
      os:=fun k hk=>hO' k hk.2 (hos k hk.1)
      ne:=hne
      ssb:=fun h=>hssb h.1
      bb:=hbb
      bsb:=hbsb
      bs:=fun k hk=>hbs k hk.1 }
    ·rcases hk with h | h | h | h
     ·rcases k3 k h with h | h
      ·exact Or.inl (Or.inl (Or.inl h))
      ·exact Or.inr (by omega)
     ·exact Or.inl (Or.inl (Or.inr (Or.inl h.1)))
     ·exact Or.inl (Or.inl (Or.inr (Or.inr (Or.inl h))))
     ·exact Or.inl (Or.inl (Or.inr (Or.inr (Or.inr h))))
  clear hJ3 hmk hSR hR hts hx HM HH HT HC
  go_wp2_with fail
  refine HA.out.mono ?_
  rintro e W4 ⟨O',rfl,hJ4,hC4,hO4⟩
  obtain⟨hS4,q0,q7,q6⟩:=HF.out O' W4 hJ4 hC4 hO4
  have Q0:=Lib.hid q0
  have Q7:=Lib.hid q7
  have Q6:=Lib.hid q6
  clear HA HF hJ4 hC4 hO4 q0 q7 q6
  have hh:=hS4.2
  have hlt4:=hS4.1
  obtain⟨c0,c1⟩:=cells2 hh
  have fz:W4.frozen? ⟨sb,1,none⟩=false:=by simp[World.frozen?,hh]
  have HS4:=Lib.hid hS4
  clear hh hS4
  by_cases h0:x=0
  ·subst h0
   have HQ:=Lib.hid (Q0.out rfl)
   clear Q0 Q7 Q6
   go_wp2
   go_ret
   exact HQ.out
  ·by_cases h7:x=7
   ·subst h7
    have HQ:=Lib.hid (Q7.out rfl)
    have HD:=Lib.hid (down_any sb b (some jp) W4 HS4.out)
    clear Q0 Q7 Q6
    go_wp2_with fail
    refine HD.out.mono ?_
    rintro e W5 ⟨rfl,j1,j2,j3⟩
    have HQ5:=Lib.hid (HQ.out W5 j1 j2 j3)
    clear j1 j2 j3
    go_wp2
    go_ret
    exact HQ5.out
   ·have HQ:=Lib.hid (Q6.out h0 h7)
    clear Q0 Q7 Q6
    go_wp2
    go_ret
    exact HQ.out
end
end Go.Proofs.YtlogjpmdfimgdaaGreatDoor
namespace Go.Proofs.YtlogjpmdfimgdaaGreatDoor
open Go Go.RowKit Go.Own Go.Own.Fr Go.Maps Go.WideMaps
section
variable{Sg:Type}{base:Nat}{JS:(Nat→Prop)→World→Addr→Sg→Prop}{good:Sg→Prop}{tx:Sg→List (List Nat)}{apE:Sg→List Nat→Int}{apS:Sg→List Nat→Sg}{anE:Sg→List (List Nat)→Int}{anS:Sg→List (List Nat)→Sg}
structure Small(g:ByteArray→Option A):Prop where
 key:∀k,(g k).isSome=true→k.size≤65535
 val:∀k a,g k=some a→sz a 2≤1000000000000
theorem szs_bound(d M:Nat):∀l:List A,(∀x∈l,sz x d≤M)→szs l d≤l.length*M
 | [],_=>by simp[szs]
 |x :: r,h=>by
  have h1:=h x List.mem_cons_self
  have h2:=szs_bound d M r (fun y hy=>h y (List.mem_cons_of_mem _ hy))
  rw[szs,List.length_cons,Nat.succ_mul]
  omega
theorem sz_list(l:List A)(d:Nat):sz (.list l) d≤2+szs l (d+1):=by
 rw[sz]
 split
 ·exact Nat.zero_le _
 ·exact Nat.le_refl _
theorem sz_str(s:ByteArray)(d:Nat):sz (.str s) d≤65538:=by
 rw[sz]
 split <;> omega
theorem sz_chA(c:Ch)(h:∀a,c.2=some a→sz a 2≤1000000000000):sz (chA c) 1≤1000000100000:=by
 unfold chA
 split
 ·have h1:_≤2+szs _ 2:=sz_list [.str c.1] 1
  have h2:=sz_str c.1 2
  simp only[szs]at h1
  omega
 ·rename_i a ha
  have h1:_≤2+szs _ 2:=sz_list [.str c.1,a] 1
  have h2:=sz_str c.1 2
  have h3:=h a ha
  simp only[szs]at h1
  omega
theorem sz_trA(cs:List Ch)(h:∀c∈cs,∀a,c.2=some a→sz a 2≤1000000000000)(hl:cs.length≤16):sz (trA cs) 0≤140737488355328:=by
 unfold trA
 have h1:_≤2+szs _ 1:=sz_list (cs.map chA) 0
 have h2:=szs_bound 1 1000000100000 (cs.map chA) (fun x hx=>by
  obtain⟨c,hc,rfl⟩:=List.mem_map.1 hx
  exact sz_chA c (h c hc))
 rw[List.length_map]at h2
 have h3:cs.length*1000000100000≤16*1000000100000:=Nat.mul_le_mul_right _ hl
 omega
theorem Small.size{g:ByteArray→Option A}(h:Small g)(l:List ByteArray)(_:∀k∈l,(g k).isSome=true)(hl:l.length≤16):sz (trA (l.map fun k=>(k,g k))) 0≤140737488355328 :=
 sz_trA _ (fun c hc a ha=>by
  obtain⟨k,_,rfl⟩:=List.mem_map.1 hc
  exact h.val k a ha) (by rw[List.length_map];exact hl)
set_option maxRecDepth 100000 in
set_option maxHeartbeats 1000000 in
theorem compact_any(HJ:Jour base JS good tx apE apS anE anS)(O S:Nat→Prop)(sb b n:Nat)(jp:Addr)(s:Sg)(g:ByteArray→Option A)(w:World)(H:StoreAt base JS O S w sb jp b n s g)(hgood:good s)(hn:n≤1000000)(hbw:base≤w.heap.size)(hg:Small g) :
  Calls Tryz.prog 21 #[.pointer (some ⟨sb,0,none⟩)] w (AnewQ base JS anE anS s sb jp (Ft O S sb b) n g g w):=by
 have HA:=Lib.hid (anew_any HJ O S sb b n b n jp s g g w H hgood H.map hn H.ob H.ne H.bb hbw (fun k hk=>by have:=hg.key k hk;unfold maxLen;omega) hg.size)
 obtain⟨c0,c1⟩:=cells2 H.at_.2
 have hF:(fun k=>Ft O S sb b k∨k=b)=Ft O S sb b:=by
  funext k
  exact propext ⟨fun h=>h.elim id (fun h=>Or.inr (Or.inr (Or.inl h))),Or.inl⟩
 rw[hF,Nat.max_self]at HA
 clear H hg hF
 go_enter Tryz.func21,Tryz.ntmps21
 go_wp2_with fail
 refine HA.out.mono ?_
 rintro e w' ⟨ks,O',S',b',n',q1,rfl,q2⟩
 have HQ:Hid (AnewQ base JS anE anS s sb jp (Ft O S sb b) n g g w (.returned (.int .i64 (anewR (anE s ((txsB g ks).map bys)) g g).1)) w'):=Lib.hid ⟨ks,O',S',b',n',q1,rfl,q2⟩
 clear q1 q2
 go_wp2
 go_ret
 exact HQ.out
end
end Go.Proofs.YtlogjpmdfimgdaaGreatDoor

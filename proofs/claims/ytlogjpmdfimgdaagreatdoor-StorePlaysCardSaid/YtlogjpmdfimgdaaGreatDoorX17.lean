/- The walk's state: both stores side by side, and what the law's helpers answer of them. No condition but what a journal answers. | StorePlays' walk (f3), given what a journal's functions answer. No condition but that. -/
import Derived.Test.YtlogjpmdfimgdaaGreatDoorX16
namespace Go.Proofs.YtlogjpmdfimgdaaGreatDoor
open Go Go.RowKit Go.Own Go.Own.Fr Go.Maps Go.WideMaps
theorem wp_callU{P:Program}{a:Act}{W:World}{dst:Option Tmp}{f:FuncId}{xs:Array Operand}{ats:Array TypeId}{ty:TypeId}{pos:String}{after:Array Edge}{guard:Option (Nat×Bool)}{R:Act→World→Prop}{Q:Exit→Act→World→Prop}(args:Array Value)(hargs:xs.map a.eval=args)
  (hf:(callFunc f args).run P W=.ok (.enter f args) W) (hc:Calls P f args W fun e W'=>∃v,e=.returned v∧R (a.put dst v) W'):Oper.wp P { dst,op:=.call { callee:=.value (.func f),args:=xs,argTypes:=ats },type:=ty,pos,after,guard } a W R Q:=by
 unfold Oper.wp
 rw[execOp_call_go,hargs]
 simp only[Array.empty_append,Array.append_empty]
 rw[hf]
 refine hc.mono ?_
 rintro e W' ⟨v,rfl,hR⟩
 exact hR
section
variable{Sg:Type}{base:Nat}{JS:(Nat→Prop)→World→Addr→Sg→Prop}{good:Sg→Prop}{tx:Sg→List (List Nat)}{apE:Sg→List Nat→Int}{apS:Sg→List Nat→Sg}{anE:Sg→List (List Nat)→Int}{anS:Sg→List (List Nat)→Sg}{al:Sg→Md→Prop}{dk:Sg→Addr}{dp:Addr}{w0:World}{bx j sb:Nat}
def PlX(base:Nat)(JS:(Nat→Prop)→World→Addr→Sg→Prop)(good:Sg→Prop)(tx:Sg→List (List Nat))(al:Sg→Md→Prop)(dk:Sg→Addr)(dp:Addr)(w0:World)(bx j sb:Nat)(cs:Array Value)(m:Md)(D:List Pr)(W:World):Prop :=
 ∃O S jp b n s g,StD base JS O S bx sb jp b n W s g cs m D∧PI good tx al j s g m D∧n≤765000+30*j∧dk s=dp∧Below base w0 W
theorem PlX.below(HJ:Jour base JS good tx apE apS anE anS){cs:Array Value}{m:Md}{D:List Pr}{W W':World}(h:PlX base JS good tx al dk dp w0 bx j sb cs m D W)(hB:Below W.heap.size W W'):PlX base JS good tx al dk dp w0 bx j sb cs m D W':=by
 obtain⟨O,S,jp,b,n,s,g,h1,h2,h3,h4,h5⟩:=h
 exact⟨O,S,jp,b,n,s,g,h1.below HJ hB,h2,h3,h4,h5.trans (hB.mono h1.sz)⟩
theorem PlX.box{cs:Array Value}{m:Md}{D:List Pr}{W:World}(h:PlX base JS good tx al dk dp w0 bx j sb cs m D W):Below base w0 W∧W.heap[bx]?=some (.cells cs 34 (0,0)):=by
 obtain⟨O,S,jp,b,n,s,g,h1,h2,h3,h4,h5⟩:=h
 exact⟨h5,h1.box⟩
theorem PlX.tells(HJ:Jour base JS good tx apE apS anE anS)(hj:j≤41){c0 c1 c2 c3 c4:Value}{m:Md}{D:List Pr}{W:World}(h:PlX base JS good tx al dk dp w0 bx j sb #[c0,c1,c2,c3,c4] m D W) :
  Calls Tryz.prog 11 #[.pointer (some ⟨sb,0,none⟩),c4] W fun e w'=>e=.returned (.bool true)∧Below W.heap.size W w':=by
 obtain⟨O,S,jp,b,n,s,g,h1,h2,h3,h4,h5⟩:=h
 obtain⟨q,x,c,ts,p,cap,e,_,_,hpr,_,_⟩:=h1.ds
 simp only[Value.agg.injEq,Array.mk.injEq,List.cons.injEq,and_true]at e
 obtain⟨_,_,_,_,rfl⟩:=e
 have:=h2.len
 exact tells_any HJ (h1.live h2 h3 h5) h1.sz (by omega) D _ hpr.row (by omega) h2.pairs
theorem PlX.keys(hj:j≤41)(pre:ByteArray){cs:Array Value}{m:Md}{D:List Pr}{W:World}(h:PlX base JS good tx al dk dp w0 bx j sb cs m D W) :
  Calls Tryz.prog 13 #[.pointer (some ⟨sb,0,none⟩),.string pre] W fun e w'=>∃v,e=.returned v∧StrRow w' v ((D.map Prod.fst).filter (begB · pre))∧Below W.heap.size W w':=by
 obtain⟨O,S,jp,b,n,s,g,h1,h2,h3,h4,h5⟩:=h
 refine(keysL_any pre sb b n _ S g (by omega) W h1.st.at_ h1.st.map).mono ?_
 rintro e w' ⟨v,ks,rfl,hv,hk,_,hB⟩
 have:=hk.unique h2.pairs.keys.filter
 subst this
 exact⟨v,rfl,hv.strs,hB⟩
theorem PlX.rkeys(hj:j≤41)(pre:ByteArray){c0 c1 c2 c3 c4:Value}{m:Md}{D:List Pr}{W:World}(h:PlX base JS good tx al dk dp w0 bx j sb #[c0,c1,c2,c3,c4] m D W) :
  Calls Tryz.prog 14 #[c4,.string pre] W fun e w'=>∃v,e=.returned v∧StrRow w' v ((D.map Prod.fst).filter (begB · pre))∧Below W.heap.size W w':=by
 obtain⟨O,S,jp,b,n,s,g,h1,h2,h3,h4,h5⟩:=h
 obtain⟨q,x,c,ts,p,cap,e,_,_,hpr,_,_⟩:=h1.ds
 simp only[Value.agg.injEq,Array.mk.injEq,List.cons.injEq,and_true]at e
 obtain⟨_,_,_,_,rfl⟩:=e
 have:=h2.len
 refine(rkeys_any D _ pre W hpr.row (by omega)).mono ?_
 rintro e w' ⟨v,rfl,hv,hB⟩
 exact⟨v,rfl,hv.strs,hB⟩
theorem PlX.klen(hj:j≤41)(pre:ByteArray){cs:Array Value}{m:Md}{D:List Pr}{W:World}(h:PlX base JS good tx al dk dp w0 bx j sb cs m D W):((D.map Prod.fst).filter (begB · pre)).length≤9223372036854775807:=by
 obtain⟨O,S,jp,b,n,s,g,h1,h2,h3,h4,h5⟩:=h
 have:=h2.len
 have h6:=List.length_filter_le (begB · pre) (D.map Prod.fst)
 rw[List.length_map]at h6
 omega
theorem PlX.again(HJ:Jour base JS good tx apE apS anE anS)(HOP:∀O W jp s,JS O W jp s→good s→Calls Tryz.prog 24 #[.pointer (some (dk s))] W (JOpenQ JS O s W)){cs:Array Value}{m:Md}{D:List Pr}{W:World}(h:PlX base JS good tx al dk dp w0 bx j sb cs m D W) :
  Calls Tryz.prog 15 #[.pointer (some dp)] W fun e w'=>∃sb',e=.returned (.pointer (some ⟨sb',0,none⟩))∧PlX base JS good tx al dk dp w0 bx j sb' cs m D w':=by
 obtain⟨O,S,jp,b,n,s,g,h1,h2,h3,h4,h5⟩:=h
 have ho:=HOP O W jp s h1.st.jour h2.good
 rw[h4]at ho
 refine(again_any HJ O dp s g W ho h2.good h2.opens h1.sz).mono ?_
 rintro e w' hq
 obtain⟨O',S',sb',b',n',jp',rfl,hn,hst,hB⟩:=h1.again HJ hq
 exact⟨sb',rfl,O',S',jp',b',n',s,g,hst,h2,by omega,h4,h5.trans (hB.mono h1.sz)⟩
theorem PlX.does(HJ:Jour base JS good tx apE apS anE anS)(HG:Goes good apE apS anE anS)(HT:Twin good tx apE apS anE anS al)(hdA:∀s t,dk (apS s t)=dk s)(hdN:∀s ts,dk (anS s ts)=dk s){O S:Nat→Prop}{jp:Addr}{b n:Nat}{s:Sg}{g:ByteArray→Option A}{cs:Array Value}{m:Md}{D:List Pr}{W:World}(hj:j≤40)(a:Ac)(ha:OkA a)
  (h:StD base JS O S bx sb jp b n W s g cs (dact m D a).1.1 (dact m D a).1.2) (hp:PI good tx al j s g m D) (hn:n≤765000+30*j) (hd:dk s=dp) (hb:Below base w0 W) (lv:Value) (hl:InCh W lv a.l) :
  Calls Tryz.prog 10 #[.pointer (some ⟨sb,0,none⟩),.agg #[lv,.bool a.cp,.int .i64 a.k1,.int .u64 a.k2,.int .i64 a.k3]] W fun e w'=>e=.returned (.int .i64 (dact m D a).2)∧PlX base JS good tx al dk dp w0 bx (j+1) sb cs (dact m D a).1.1 (dact m D a).1.2 w':=by
 refine(does_ok HJ HG O S sb b n jp s g W h.st hp.good h.sz (by omega) hp.small a lv hl ha).mono ?_
 rintro e w' hq
 obtain⟨O',S',b',n',c,s',g',rfl,hR,hn',hst,hB⟩:=h.does HJ hq
 obtain⟨rfl,hpi⟩:=hp.step HG HT (by omega) a ha (inCh_ok hl) hR
 refine⟨rfl,O',S',jp,b',n',s',g',hst,hpi,by omega,?_,hB _ hb⟩
 rw[←hd]
 rcases hR with⟨_,ks,_,_,rfl,_⟩ | ⟨_,hR⟩
 ·exact hdN _ _
 ·rcases hR with⟨_,_,rfl,_⟩ | ⟨_,⟨_,_,rfl,_⟩ | ⟨_,ks,_,_,rfl,_⟩ | ⟨_,_,_,rfl,_⟩⟩
  ·rfl
  ·exact hdA _ _
  ·exact(hdN _ _).trans (hdA _ _)
  ·exact hdA _ _
end
def WI2(A B:World→Prop)(b:Bool)(W:World):Prop:=match b with
 |true=>A W
 |false=>B W
def PT14(sj:Nat)(p:Option Addr)(n cap j q qo:Nat)(av:Value)(z:Int)(bx:Nat)(pv:Value)(pre:ByteArray)(KK:List ByteArray)(i:Nat)(v:Value)(W:World):Prop :=
 match i with
 |0=>v=.pointer (some ⟨sj,0,none⟩)
 |1=>v=.slice p n cap
 |2=>v=.int .i64 (j:Int)
 |3=>v=.pointer (some ⟨q,qo+j*5,none⟩)
 |4=>v=av
 |5=>v=.int .i64 z
 |6=>v=.int .i64 z
 |7=>v=.bool false
 |8=>v=.bool false
 |9=>v=.pointer (some ⟨sj,0,none⟩)
 |10=>v=.pointer (some ⟨bx,4,none⟩)
 |11=>v=pv
 |12=>v=.bool true
 |13=>v=.bool false
 |14=>v=.bool false
 |15=>v=.bool false
 |16=>v=.pointer (some ⟨sj,0,none⟩)
 |17=>v=.string pre
 |18=>StrRow W v KK
 |19=>v=.pointer (some ⟨bx,4,none⟩)
 |20=>v=pv
 |21=>v=.string pre
 |22=>StrRow W v KK
 |23=>v=.bool true
 |24=>v=.bool false
 |25=>v=.bool false
 |_=>True
theorem PT14.plain{sj:Nat}{p:Option Addr}{n cap j q qo:Nat}{av:Value}{z:Int}{bx:Nat}{pv:Value}{pre:ByteArray}{KK:List ByteArray}{i:Nat}{v:Value}{W W':World}(h:PT14 sj p n cap j q qo av z bx pv pre KK i v W)(h1:i≠18)(h2:i≠22):PT14 sj p n cap j q qo av z bx pv pre KK i v W':=by
 match i,h with
 |18,_=>exact absurd rfl h1
 |22,_=>exact absurd rfl h2
 |i+26,_=>exact trivial
 |0,h | 1,h | 2,h | 3,h | 4,h | 5,h | 6,h | 7,h | 8,h | 9,h | 10,h | 11,h | 12,h | 13,h | 14,h | 15,h | 16,h | 17,h | 19,h | 20,h | 21,h | 23,h | 24,h | 25,h=>exact h
theorem PT14.last{sj:Nat}{p:Option Addr}{n cap j q qo:Nat}{av:Value}{z:Int}{bx:Nat}{pv:Value}{pre:ByteArray}{KK:List ByteArray}{i:Nat}{v:Value}{W W':World}(h:PT14 sj p n cap j q qo av z bx pv pre KK i v W)(hB:Below W.heap.size W W'):PT14 sj p n cap j q qo av z bx pv pre KK i v W':=by
 by_cases h1:i=18
 ·subst h1;exact StrRow.below h hB
 ·by_cases h2:i=22
  ·subst h2;exact StrRow.below h hB
  ·exact h.plain h1 h2
end Go.Proofs.YtlogjpmdfimgdaaGreatDoor
namespace Go.Proofs.YtlogjpmdfimgdaaGreatDoor
open Go Go.RowKit Go.Own Go.Own.Fr Go.Maps Go.WideMaps
theorem eval_tmp(a:Act)(k:Nat):a.eval (.tmp k)=a.tmps.getD k undef:=rfl
section
variable{Sg:Type}{base:Nat}{JS:(Nat→Prop)→World→Addr→Sg→Prop}{good:Sg→Prop}{tx:Sg→List (List Nat)}{apE:Sg→List Nat→Int}{apS:Sg→List Nat→Sg}{anE:Sg→List (List Nat)→Int}{anS:Sg→List (List Nat)→Sg}{al:Sg→Md→Prop}
def PlW(base:Nat)(JS:(Nat→Prop)→World→Addr→Sg→Prop)(good:Sg→Prop)(tx:Sg→List (List Nat))(al:Sg→Md→Prop)(dk:Sg→Addr)(dp:Addr)(w0:World)(bx j sb:Nat)(W:World):Prop :=
 ∃O S jp b n s g cs m D,StD base JS O S bx sb jp b n W s g cs m D∧PI good tx al j s g m D∧n≤765000+30*j∧dk s=dp∧Below base w0 W
set_option maxRecDepth 100000 in
set_option maxHeartbeats 4000000 in
theorem plays_of(HJ:Jour base JS good tx apE apS anE anS)(HG:Goes good apE apS anE anS)(HT:Twin good tx apE apS anE anS al)(dk:Sg→Addr)(hdA:∀s t,dk (apS s t)=dk s)(hdN:∀s ts,dk (anS s ts)=dk s)
  (HOP:∀O W jp s,JS O W jp s→good s→Calls Tryz.prog 24 #[.pointer (some (dk s))] W (JOpenQ JS O s W))
  (w:World) (hbase:base=w.heap.size) (HAW:Calls Tryz.prog 5 #[] w fun e w'=>e=.returned (.bool true)∧Below w.heap.size w w') (size:Int)
  (HNEW:8≤size→size≤200→size%2=0→∀W,Below base w W→∃s0,Calls Tryz.prog 23 #[.int .i64 size] W (DNewQ JS (fun _ dp=>dp=dk s0) s0 W)∧good s0∧tx s0=[]∧al s0 ⟨size.toNat/2,0,0⟩)
  (L:List Ac) (p:Option Addr) (cap:Nat) (pre:ByteArray) (hL:InAct w (.slice p L.length cap) L) (hLn:L.length≤2513169434900) (hsz:∀a∈L,a.l.length≤140737488355328∧∀x∈a.l,x.1.size≤140737488355328) :
  Calls Tryz.prog 3 #[.int .i64 size,.slice p L.length cap,.string pre] w (TrueQ base w):=by
 subst hbase
 have HFW:=Lib.hid (fun W (h:InAct W (.slice p L.length cap) L)=>fews_any L _ W h (by omega) (fun a ha=>⟨by have:=(hsz a ha).1;omega,(hsz a ha).2⟩))
 have HL:=Lib.hid hL
 have HA:=Lib.hid HAW
 obtain⟨n,hn⟩:∃n,L.length=n:=⟨_,rfl⟩
 have HN:=Lib.hid hn
 rw[hn]at HFW HL ⊢
 clear hL hsz hn HAW
 go_enter Tryz.func3,Tryz.ntmps3
 go_wp2_with fail
 refine HA.out.mono ?_
 rintro e w1 ⟨rfl,hb1⟩
 have HB1:=Lib.hid hb1
 clear hb1 HA
 go_wp2_with fail
 refine(HFW.out w1 (HL.out.below HB1.out)).mono ?_
 rintro e w2 ⟨fb,rfl,hb2,hok⟩
 have HB2:=Lib.hid (HB1.out.trans (hb2.mono HB1.out.size))
 have HOK:=Lib.hid hok
 clear hb2 hok HFW
 cases fb with
 |false =>
  go_wp2
  go_ret
  exact⟨rfl,HB2.out⟩
 |true =>
 have HK:=Lib.hid (HOK.out rfl)
 clear HOK
 by_cases h8:size<8
 ·go_wp2
  go_ret
  exact⟨rfl,HB2.out⟩
 by_cases h200:200<size
 ·have h8d:decide (size<8)=false:=by simp;omega
  go_wp2
  go_ret
  exact⟨rfl,HB2.out⟩
 have h8d:decide (size<8)=false:=by simp;omega
 have h2d:decide (200<size)=false:=by simp;omega
 have htm:size.tmod 2=size%2:=Int.tmod_eq_emod_of_nonneg (by omega)
 by_cases hev:size%2=0
 ·skip
  have hev0:size.tmod 2=0:=by rw[htm];exact hev
  by_cases h50:50<pre.size
  ·have h50i:(50:Int)<(pre.size:Int):=by omega
   clear htm hev
   go_wp2
   go_ret
   exact⟨rfl,HB2.out⟩
  have h50i:¬(50:Int)<(pre.size:Int):=by omega
  obtain⟨k,rfl⟩:∃k:Nat,size=(k:Int):=⟨size.toNat,by omega⟩
  obtain⟨s0,hnew0,hg0,ht0,hal0⟩:=HNEW (by omega) (by omega) hev w2 HB2.out
  have HMD:=Lib.hid (made_any HJ _ (k:Int) s0 w2 hnew0 hg0 ht0 HB2.out.size)
  have HAL:=Lib.hid hal0
  have HG0:=Lib.hid hg0
  have HT0:=Lib.hid ht0
  clear hnew0 HNEW hg0 ht0 hal0 htm hev h50
  go_wp2_with fail
  refine HMD.out.mono ?_
  rintro e w3 ⟨O,S,sb,b,nn,jp,dp,rfl,hn3,hst,hb3,hds,hft⟩
  have HB3:=Lib.hid (HB2.out.trans (hb3.mono HB2.out.size))
  have HDP:=Lib.hid hds
  have HST:=Lib.hid hst
  have HFT:=Lib.hid hft
  have HN3:=Lib.hid hn3
  have HB23:=Lib.hid hb3.size
  obtain⟨hh,hhh⟩:∃hh,k/2=hh:=⟨_,rfl⟩
  have HDN:=Lib.hid (dsnew_any (fun k=>¬Ft O (fun k=>S k∧k<w3.heap.size) sb b k) w.heap.size k (by omega) w3)
  rw[hhh]at HDN
  have HAL2:Hid (al s0 ⟨hh,0,0⟩):=Lib.hid (by have h:=HAL.out;rwa [Int.toNat_natCast,hhh]at h)
  clear hb3 hds hst hft hn3 HMD hhh HAL
  go_wp2_with fail
  refine HDN.out.mono ?_
  rintro e w4 ⟨mv,rfl,hdn,hb4⟩
  obtain⟨q0,x0,c0,ts0,p0,cp0,rfl,hrs0,htl0,hpr0,hsb0,hsb1⟩:=hdn
  simp only[List.length_nil,Int.natCast_zero]at hrs0 htl0 hpr0 hsb0 hsb1 ⊢
  have HB34:=Lib.hid hb4
  have HPL:Hid (PlW w.heap.size JS good tx al dk dp w w4.heap.size 0 sb (w4.alloc (.cells #[.int .i64 (hh:Int),.slice q0 x0 c0,.int .i64 0,.int .i64 0,.slice p0 0 cp0] 34))):=Lib.hid (by
   have hB5:=HB34.out.trans ((below_new w4 (.cells #[.int .i64 (hh:Int),.slice q0 x0 c0,.int .i64 0,.int .i64 0,.slice p0 0 cp0] 34)).mono HB34.out.size)
   have hst3:=HST.out.below HJ HB3.out.size (Below.refl _ w3)
   have hlt3:∀k,Ft O (fun k=>S k∧k<w3.heap.size) sb b k→k<w3.heap.size:=fun k hk=>HST.out.lt HJ k hk
   refine⟨O,_,jp,b,nn,s0,_,_,⟨hh,0,0⟩,[],⟨hst3.same HJ (ext_below hB5) (fun k _ hlt=>hB5.block k hlt) (fun k hk=>hB5.block k (Nat.lt_of_lt_of_le hk HB3.out.size)),fun k hk=>Nat.lt_of_lt_of_le (hlt3 k hk) hB5.size,heap_alloc_new w4 _,fun hk=>by have:=hlt3 _ hk;have:=HB34.out.size;omega,Nat.le_trans HB3.out.size HB34.out.size,?_,Nat.le_trans HB3.out.size hB5.size⟩,⟨HG0.out,small_none,fine_none,?_,⟨⟨List.Pairwise.nil,fun s=>⟨fun h=>by simp at h,fun h=>by simp at h⟩⟩,fun x hx=>by simp at hx⟩,by rw[HT0.out];rfl,(fun _ _ h=>by cases h),Nat.le_refl _,Nat.le_refl _⟩,HN3.out,HDP.out.symm,HB3.out.trans (hB5.mono HB3.out.size)⟩
   ·have hn:=below_new w4 (.cells #[.int .i64 (hh:Int),.slice q0 x0 c0,.int .i64 0,.int .i64 0,.slice p0 0 cp0] 34)
    exact DS.below (w:=w4) ⟨q0,x0,c0,ts0,p0,cp0,rfl,hrs0,htl0,hpr0,hsb0,hsb1⟩ (Nat.le_trans HB3.out.size HB34.out.size) hn
   ·exact HAL2.out)
  obtain⟨bx,hbx⟩:∃bx,w4.heap.size=bx:=⟨_,rfl⟩
  obtain⟨w5,hw5⟩:∃w5,w4.alloc (.cells #[.int .i64 (hh:Int),.slice q0 x0 c0,.int .i64 0,.int .i64 0,.slice p0 0 cp0] 34)=w5:=⟨_,rfl⟩
  have HBX:=Lib.hid hbx
  have HW5:=Lib.hid hw5
  rw[hbx,hw5]at HPL
  clear hrs0 htl0 hpr0 hsb0 hsb1 hb4 hbx hw5 HST HFT HN3 HB23 HDN HAL2 HG0 HT0 HDP HB34 h50i hev0
  go_wp2
  rw[HW5.out,HBX.out]
  go_loopw [8,10] (fun u i wr=>∃(j sb:Nat),j≤n∧i=.int .i64 (j:Int)∧u=.pointer (some ⟨sb,0,none⟩)∧Hid (PlW w.heap.size JS good tx al dk dp w bx j sb wr)) (fun _ i _=>n-(intOf i).toNat)
  case atStart=>exact⟨0,sb,Nat.zero_le _,rfl,rfl,HPL⟩
  case round =>
   clear HPL
   obtain⟨j,sj,hj,rfl,rfl,HP⟩:=hrel
   by_cases hlt:j<n
   ·have hlti:(j:Int)<(n:Int):=by omega
    go_wp2_with fail
    obtain⟨x,hx⟩:∃x,L[j]?=some x:=⟨L[j]'(by have:=HN.out;omega),List.getElem?_eq_getElem _⟩
    have hxm:x∈L:=List.mem_of_getElem? hx
    have HOA:=Lib.hid (HK.out.2 x hxm)
    have hn40:n≤40:=by have:=HK.out.1;have:=HN.out;omega
    obtain⟨O,S,jp,b,nb,s,g,cs,m,D,hst,hpi,hnb,hdk,hbl⟩:=HP.out
    have HST:=Lib.hid hst
    have HPI:=Lib.hid hpi
    have HNB:=Lib.hid hnb
    have HDK:=Lib.hid hdk
    have HBL:=Lib.hid hbl
    clear hst hpi hnb hdk hbl HP
    obtain⟨p9,cap9,e9,hcap9,hrow9⟩:=HL.out
    simp only[Value.slice.injEq]at e9
    obtain⟨rfl,hn9,rfl⟩:=e9
    obtain⟨q,qo,lv,hpq,hq,d0,d1,d2,d3,d4,hin⟩:=hrow9 j x hx
    have HPQ:=Lib.hid hpq
    have HQ:=Lib.hid hq
    have E0:=Lib.hid d0
    have E1:=Lib.hid d1
    have E2:=Lib.hid d2
    have E3:=Lib.hid d3
    have E4:=Lib.hid d4
    have HIN0:=Lib.hid (InChT.of hin)
    have G0:=Lib.hid ((HBL.out.cell (p:=⟨q,qo+j*5,none⟩) hq).trans d0)
    have G1:=Lib.hid ((HBL.out.cell (p:=⟨q,qo+j*5+1,none⟩) hq).trans d1)
    have G2:=Lib.hid ((HBL.out.cell (p:=⟨q,qo+j*5+2,none⟩) hq).trans d2)
    have G3:=Lib.hid ((HBL.out.cell (p:=⟨q,qo+j*5+3,none⟩) hq).trans d3)
    have G4:=Lib.hid ((HBL.out.cell (p:=⟨q,qo+j*5+4,none⟩) hq).trans d4)
    have HIN:=Lib.hid ((InChT.of hin).below (Nat.le_refl _) HBL.out)
    clear hcap9 hrow9 hn9 hpq d0 d1 d2 d3 d4 hin hq hx hxm
    have HDA:=Lib.hid (fun (W:World) (hW:Below wr.heap.size wr W)=>dact_any (fun k=>¬Ft O S sj b k) w.heap.size m D (.agg cs) lv x W (HPI.out.ok HT (by omega)) (HST.out.ds.below HST.out.sz hW) (Nat.le_trans HST.out.sz hW.size) (fun k hk hf=>by have:=HST.out.lt k hf;have:=hW.size;omega) (by have:=HPI.out.len;have:=HOA.out.1;omega) HPI.out.prOk (HIN.out.below HST.out.sz hW) HOA.out)
    have HSZ:=Lib.hid HST.out.sz
    have HQ2:=Lib.hid (Nat.lt_of_lt_of_le HQ.out HST.out.sz)
    have HBX12:=Lib.hid HST.out.box
    have HBXl:=Lib.hid (Array.getElem?_eq_some_iff.1 HST.out.box).1
    obtain⟨y1,y2,y3,y4,y5,rfl⟩:∃y1 y2 y3 y4 y5,cs=#[y1,y2,y3,y4,y5]:=by obtain⟨_,_,_,_,_,_,e,_⟩:=HST.out.ds;exact⟨_,_,_,_,_,Value.agg.inj e⟩
    refine wp_region_fine_store 11 10 (by decide) (fun _ W=>Below wr.heap.size wr W) (PT12 (fun k=>¬Ft O S sj b k) w.heap.size wr.heap.size #[y1,y2,y3,y4,y5] p n cap j q qo (.agg #[lv,.bool x.cp,.int .i64 x.k1,.int .u64 x.k2,.int .i64 x.k3]) (dact m D x).1.1 (dact m D x).1.2 (dact m D x).2) (by kernel_rfl) (by kernel_rfl) (by kernel_rfl) (by kernel_rfl) ⟨rfl,rfl,rfl,Nat.le_refl _,fun _ _=>rfl⟩ (fun _ _ _ h hB=>h.trans (hB.mono h.size)) (fun _ _ _ _ _ h hB=>h.last hB) ?_ ?_ ?_ ?_
    ·intro ix oo jj b ho hg ph vv W hT
     simp only[List.take_succ_cons,List.take_zero]at ho
     match ix,ho with
     |0,ho=>obtain rfl:=Option.some.inj ho;cases hg
     |1,ho=>obtain rfl:=Option.some.inj ho;cases hg
     |2,ho=>obtain rfl:=Option.some.inj ho;cases hg
     |3,ho=>obtain rfl:=Option.some.inj ho;cases hg
     |4,ho=>obtain rfl:=Option.some.inj ho;cases hg
     |5,ho=>obtain rfl:=Option.some.inj ho;cases hg
     |6,ho=>obtain rfl:=Option.some.inj ho;cases hg
     |7,ho=>obtain rfl:=Option.some.inj ho;cases hg
     |8,ho=>obtain rfl:=Option.some.inj ho;cases hg
     |9,ho=>obtain rfl:=Option.some.inj ho;cases hg
     |10,ho=>obtain rfl:=Option.some.inj ho;cases hg
     |ix+11,ho=>simp at ho
    ·intro oo ho a W hWI hdep hfix Q
     simp only[List.take_succ_cons,List.take_zero]at ho hdep hfix
     simp only[List.getElem?_cons_zero,List.getElem?_cons_succ,Option.some.injEq]at ho
     subst ho
     obtain⟨hds,hbz⟩:DS (fun k=>¬Ft O S sj b k) w.heap.size W (a.tmps.getD 58 undef) (dact m D x).1.1 (dact m D x).1.2∧w.heap.size≤W.heap.size:=hdep 7 _ 58 rfl rfl (by decide +kernel)
     obtain⟨bw,e2,hb,_,hc⟩:=(show _ from hdep 9 _ 11 rfl rfl (by decide +kernel):∃bw,a.tmps.getD 11 undef=.pointer (some ⟨bw,0,none⟩)∧wr.heap.size≤bw∧w.heap.size≤W.heap.size∧if false=true then ∃cs',W.heap[bw]?=some (.cells cs' 34 (0,0))∧DS (fun k=>¬Ft O S sj b k) w.heap.size W (.agg cs') (dact m D x).1.1 (dact m D x).1.2 else W.heap[bw]?=some (.cells #[.int .i64 0,.slice none 0 0,.int .i64 0,.int .i64 0,.slice none 0 0] 34 (0,0)))
     rw[if_neg (by decide)]at hc
     obtain⟨q1,x1,c1,tq1,pp1,pc1,e1,hds2⟩:=id hds
     refine wp_store_row 34 (.tmp 11) (.tmp 58) rfl bw #[.int .i64 ((dact m D x).1.1.half:Int),.slice q1 x1 c1,.int .i64 ((dact m D x).1.1.taken:Int),.int .i64 ((dact m D x).1.1.gen:Int),.slice pp1 (dact m D x).1.2.length pc1] (by rw[eval_tmp,e2]) (by rw[eval_tmp,e1]) 34 _ hc i34 rfl (by simp[Value.oneCell']) ⟨rfl,⟨hWI.os,hWI.tape,hWI.output,by simpa using hWI.size,fun k hk=>?_⟩,fun jj oj s hj hw hne hs hT=>?_⟩
     ·rw[setRow_other W _ k _ (by omega)];exact hWI.block k hk
     ·have hgr:∀cz,W.grownBy (W.setRow bw cz) (some bw):=fun cz=>⟨rfl,rfl,rfl,by simp,fun k _ hne=>setRow_other W bw k _ (fun e=>hne (by rw[e]))⟩
      have hbb:w.heap.size≤bw:=Nat.le_trans HSZ.out hb
      by_cases h9:jj=9
      ·subst h9
       simp only[List.take_succ_cons,List.take_zero,List.getElem?_cons_zero,List.getElem?_cons_succ,Option.some.injEq]at hj
       subst hj
       obtain rfl:=Option.some.inj hs
       refine⟨bw,e2,hb,Nat.le_trans hbz (hgr _).size,?_⟩
       rw[if_pos rfl]
       refine⟨_,setRow_heap W _ _ _ 34 (0,0) hc,?_⟩
       rw[←e1]
       exact hds.put hbb (hgr _) (zs34 hc)
      ·by_cases hl:jj<9
       ·exact PT12.stored hT hl (hgr _) hbb hc
       ·simp only[List.take_succ_cons,List.take_zero]at hj
        match jj,hj with
        |0,_=>omega
        |1,_=>omega
        |2,_=>omega
        |3,_=>omega
        |4,_=>omega
        |5,_=>omega
        |6,_=>omega
        |7,_=>omega
        |8,_=>omega
        |9,_=>omega
        |10,_=>omega
        |jj+11,hj=>simp at hj
    ·intro ix oo ho hne a W b1 hWI _ hph hdep hfix
     simp only[List.take_succ_cons,List.take_zero]at ho hdep hfix hph
     match ix,ho with
     |0,ho =>
      obtain rfl:=Option.some.inj ho
      have e1:a.tmps.getD 9 undef=.pointer (some ⟨bx,0,none⟩):=hfix 9 (by decide +kernel)
      exact lays_eq _ rfl (exec_ldT (by rw[eval_tmp,e1]) (ld34a ((hWI.block bx HBXl.out).trans HBX12.out)))
     |1,ho =>
      obtain rfl:=Option.some.inj ho
      have e1:a.tmps.getD 1 undef=.slice p n cap:=hfix 1 (by decide +kernel)
      exact lays_eq _ rfl (exec_move (by rw[eval_tmp,e1]))
     |2,ho =>
      obtain rfl:=Option.some.inj ho
      have e1:a.tmps.getD 10 undef=.int .i64 (j:Int):=hfix 10 (by decide +kernel)
      exact lays_eq _ rfl (exec_move (by rw[eval_tmp,e1]))
     |3,ho =>
      obtain rfl:=Option.some.inj ho
      have e1:a.tmps.getD 53 undef=.slice p n cap:=hdep 1 _ 53 rfl rfl (by decide +kernel)
      have e2:a.tmps.getD 54 undef=.int .i64 (j:Int):=hdep 2 _ 54 rfl rfl (by decide +kernel)
      exact lays_eq _ rfl (exec_ix22 (by rw[eval_tmp,e1]) HPQ.out (by rw[eval_tmp,e2]) hlt)
     |4,ho =>
      obtain rfl:=Option.some.inj ho
      have e1:a.tmps.getD 55 undef=.pointer (some ⟨q,qo+j*5,none⟩):=hdep 3 _ 55 rfl rfl (by decide +kernel)
      exact lays_eq _ rfl (exec_ldT (by rw[eval_tmp,e1]) (ld43 ((hWI.cell (p:=⟨q,qo+j*5,none⟩) HQ2.out).trans G0.out) ((hWI.cell (p:=⟨q,qo+j*5+1,none⟩) HQ2.out).trans G1.out) ((hWI.cell (p:=⟨q,qo+j*5+2,none⟩) HQ2.out).trans G2.out) ((hWI.cell (p:=⟨q,qo+j*5+3,none⟩) HQ2.out).trans G3.out) ((hWI.cell (p:=⟨q,qo+j*5+4,none⟩) HQ2.out).trans G4.out)))
     |5,ho =>
      obtain rfl:=Option.some.inj ho
      have e1:a.tmps.getD 52 undef=.agg #[y1,y2,y3,y4,y5]:=hdep 0 _ 52 rfl rfl (by decide +kernel)
      have e2:a.tmps.getD 56 undef=.agg #[lv,.bool x.cp,.int .i64 x.k1,.int .u64 x.k2,.int .i64 x.k3]:=hdep 4 _ 56 rfl rfl (by decide +kernel)
      refine lays_call #[.agg #[y1,y2,y3,y4,y5],.agg #[lv,.bool x.cp,.int .i64 x.k1,.int .u64 x.k2,.int .i64 x.k3]] (by simp[Act.eval,e1,e2]) (by kernel_rfl) ((HDA.out W hWI).mono ?_)
      rintro e W' ⟨v',rfl,hds,hB'⟩
      exact⟨_,rfl,hB',v',rfl,hds,Nat.le_trans HSZ.out (Nat.le_trans hWI.size hB'.size)⟩
     |6,ho =>
      obtain rfl:=Option.some.inj ho
      obtain⟨v',e1,hds,hbz⟩:∃v',a.tmps.getD 57 undef=.tuple #[v',.int .i64 (dact m D x).2]∧DS (fun k=>¬Ft O S sj b k) w.heap.size W v' (dact m D x).1.1 (dact m D x).1.2∧w.heap.size≤W.heap.size:=hdep 5 _ 57 rfl rfl (by decide +kernel)
      exact lays_eq _ ⟨v',rfl,hds,hbz⟩ (exec_move (by rw[eval_tmp,e1]))
     |7,ho =>
      obtain rfl:=Option.some.inj ho
      obtain⟨v',e1,hds,hbz⟩:∃v',a.tmps.getD 51 undef=.tuple #[v',.int .i64 (dact m D x).2]∧DS (fun k=>¬Ft O S sj b k) w.heap.size W v' (dact m D x).1.1 (dact m D x).1.2∧w.heap.size≤W.heap.size:=hdep 6 _ 51 rfl rfl (by decide +kernel)
      exact lays_eq _ ⟨hds,hbz⟩ (exec_ext 0 (by rw[eval_tmp,e1]) rfl)
     |8,ho =>
      obtain rfl:=Option.some.inj ho
      obtain⟨v',e1,hds,hbz⟩:∃v',a.tmps.getD 51 undef=.tuple #[v',.int .i64 (dact m D x).2]∧DS (fun k=>¬Ft O S sj b k) w.heap.size W v' (dact m D x).1.1 (dact m D x).1.2∧w.heap.size≤W.heap.size:=hdep 6 _ 51 rfl rfl (by decide +kernel)
      exact lays_eq _ rfl (exec_ext 1 (by rw[eval_tmp,e1]) rfl)
     |9,ho =>
      obtain rfl:=Option.some.inj ho
      have hb:b1=false:=by
       cases b1 with
       |false=>rfl
       |true=>exact absurd (hph _ rfl rfl) (by decide +kernel)
      subst hb
      exact lays_value exec_new34 (below_new W _) ⟨W.heap.size,rfl,hWI.size,Nat.le_trans HSZ.out (Nat.le_trans hWI.size (below_new W _).size),by rw[if_neg (by decide)];exact heap_alloc_new W _⟩
     |10,ho=>exact absurd rfl hne
     |ix+11,ho=>simp at ho
    ·intro a W hWI hd hsz hfix hT
     simp only[List.take_succ_cons,List.take_zero,List.drop_succ_cons,List.drop_zero]at hfix hT ⊢
     have f0:a.tmps.getD 0 undef=.int .i64 (k:Int):=hfix 0 (by decide +kernel)
     have f1:a.tmps.getD 1 undef=.slice p n cap:=hfix 1 (by decide +kernel)
     have f2:a.tmps.getD 2 undef=.string pre:=hfix 2 (by decide +kernel)
     have f3:a.tmps.getD 3 undef=undef:=hfix 3 (by decide +kernel)
     have f4:a.tmps.getD 4 undef=undef:=hfix 4 (by decide +kernel)
     have f5:a.tmps.getD 5 undef=undef:=hfix 5 (by decide +kernel)
     have f7:a.tmps.getD 7 undef=.pointer (some dp):=hfix 7 (by decide +kernel)
     have f8:a.tmps.getD 8 undef=.pointer (some ⟨sj,0,none⟩):=hfix 8 (by decide +kernel)
     have f9:a.tmps.getD 9 undef=.pointer (some ⟨bx,0,none⟩):=hfix 9 (by decide +kernel)
     have f10:a.tmps.getD 10 undef=.int .i64 (j:Int):=hfix 10 (by decide +kernel)
     have f13:a.tmps.getD 13 undef=.bool true:=hfix 13 (by decide +kernel)
     have f14:a.tmps.getD 14 undef=.bool false:=hfix 14 (by decide +kernel)
     have f15:a.tmps.getD 15 undef=.slice p n cap:=hfix 15 (by decide +kernel)
     have f16:a.tmps.getD 16 undef=.bool true:=hfix 16 (by decide +kernel)
     have f17:a.tmps.getD 17 undef=.bool false:=hfix 17 (by decide +kernel)
     have f18:a.tmps.getD 18 undef=.bool false:=hfix 18 (by decide +kernel)
     have f19:a.tmps.getD 19 undef=.int .i64 (k:Int):=hfix 19 (by decide +kernel)
     have f20:a.tmps.getD 20 undef=.bool false:=hfix 20 (by decide +kernel)
     have f21:a.tmps.getD 21 undef=.bool false:=hfix 21 (by decide +kernel)
     have f22:a.tmps.getD 22 undef=.bool false:=hfix 22 (by decide +kernel)
     have f23:a.tmps.getD 23 undef=.int .i64 (k:Int):=hfix 23 (by decide +kernel)
     have f24:a.tmps.getD 24 undef=.bool false:=hfix 24 (by decide +kernel)
     have f25:a.tmps.getD 25 undef=.bool false:=hfix 25 (by decide +kernel)
     have f26:a.tmps.getD 26 undef=.bool false:=hfix 26 (by decide +kernel)
     have f27:a.tmps.getD 27 undef=.int .i64 (k:Int):=hfix 27 (by decide +kernel)
     have f28:a.tmps.getD 28 undef=.int .i64 0:=hfix 28 (by decide +kernel)
     have f29:a.tmps.getD 29 undef=.bool false:=hfix 29 (by decide +kernel)
     have f30:a.tmps.getD 30 undef=.bool false:=hfix 30 (by decide +kernel)
     have f31:a.tmps.getD 31 undef=.bool false:=hfix 31 (by decide +kernel)
     have f32:a.tmps.getD 32 undef=.string pre:=hfix 32 (by decide +kernel)
     have f33:a.tmps.getD 33 undef=.int .i64 (pre.size:Int):=hfix 33 (by decide +kernel)
     have f34:a.tmps.getD 34 undef=.bool (decide ((50:Int)<(pre.size:Int))):=hfix 34 (by decide +kernel)
     have f35:a.tmps.getD 35 undef=.bool (decide ((50:Int)<(pre.size:Int))):=hfix 35 (by decide +kernel)
     have f36:a.tmps.getD 36 undef=.tuple #[.pointer (some dp),.pointer (some ⟨sb,0,none⟩)]:=hfix 36 (by decide +kernel)
     have f37:a.tmps.getD 37 undef=.int .i64 (k:Int):=hfix 37 (by decide +kernel)
     have f38:a.tmps.getD 38 undef=.tuple #[.pointer (some dp),.pointer (some ⟨sb,0,none⟩)]:=hfix 38 (by decide +kernel)
     have f39:a.tmps.getD 39 undef=.pointer (some dp):=hfix 39 (by decide +kernel)
     have f40:a.tmps.getD 40 undef=.pointer (some ⟨sb,0,none⟩):=hfix 40 (by decide +kernel)
     have f41:a.tmps.getD 41 undef=.pointer (some ⟨sb,0,none⟩):=hfix 41 (by decide +kernel)
     have f42:a.tmps.getD 42 undef=.bool false:=hfix 42 (by decide +kernel)
     have f43:a.tmps.getD 43 undef=.int .i64 (k:Int):=hfix 43 (by decide +kernel)
     have f44:a.tmps.getD 44 undef=.agg #[.int .i64 (hh:Int),.slice q0 x0 c0,.int .i64 0,.int .i64 0,.slice p0 0 cp0]:=hfix 44 (by decide +kernel)
     have f59:a.tmps.getD 59 undef=.int .i64 (dact m D x).2:=hT 8 _ 59 rfl rfl
     obtain⟨bw,f11,hb,hbz,hc⟩:=(show _ from hT 9 _ 11 rfl rfl:∃bw,a.tmps.getD 11 undef=.pointer (some ⟨bw,0,none⟩)∧wr.heap.size≤bw∧w.heap.size≤W.heap.size∧if true=true then ∃cs',W.heap[bw]?=some (.cells cs' 34 (0,0))∧DS (fun k=>¬Ft O S sj b k) w.heap.size W (.agg cs') (dact m D x).1.1 (dact m D x).1.2 else W.heap[bw]?=some (.cells #[.int .i64 0,.slice none 0 0,.int .i64 0,.int .i64 0,.slice none 0 0] 34 (0,0)))
     rw[if_pos rfl]at hc
     obtain⟨cs',hc,hds⟩:=hc
     rw[frame_lit a 101 hsz hd]
     clear hfix hT hsz hd
     simp only[List.range,List.range.loop,List.map]
     generalize a.tmps=t at *
     simp only[f0,f1,f2,f3,f4,f5,f7,f8,f9,f10,f13,f14,f15,f16,f17,f18,f19,f20,f21,f22,f23,f24,f25,f26,f27,f28,f29,f30,f31,f32,f33,f34,f35,f36,f37,f38,f39,f40,f41,f42,f43,f44,f59,f11]
     clear f0 f1 f2 f3 f4 f5 f7 f8 f9 f10 f13 f14 f15 f16 f17 f18 f19 f20 f21 f22 f23 f24 f25 f26 f27 f28 f29 f30 f31 f32 f33 f34 f35 f36 f37 f38 f39 f40 f41 f42 f43 f44 f59 f11
     have HST2:=Lib.hid (HST.out.below HJ hWI)
     obtain⟨q1,x1,c1,tq1,pp1,pc1,e1,hds2⟩:=id hds
     obtain rfl:=Value.agg.inj e1
     have HC:=Lib.hid hc
     have HDS:=Lib.hid hds
     have HBW:=Lib.hid (HBL.out.trans (hWI.mono HBL.out.size))
     obtain⟨z,hz⟩:∃z,(dact m D x).2=z:=⟨_,rfl⟩
     obtain⟨m',hm'⟩:∃z,(dact m D x).1.1=z:=⟨_,rfl⟩
     obtain⟨D',hD'⟩:∃z,(dact m D x).1.2=z:=⟨_,rfl⟩
     have HZ:=Lib.hid hz
     have HM':=Lib.hid hm'
     have HD':=Lib.hid hD'
     rw[hz]
     rw[hm',hD']at HDS
     rw[hm',hD']at HC
     clear hc hds hds2 e1 hz hm' hD' hb hbz hWI HDA HST HBX12 HBXl
     have c_0:W.cell? ⟨bw,0,none⟩=some (.int .i64 (m'.half:Int)):=by rw[cell_at HC.out];rfl
     have c_1:W.cell? ⟨bw,1,none⟩=some (.slice q1 x1 c1):=by rw[cell_at HC.out];rfl
     have c_2:W.cell? ⟨bw,2,none⟩=some (.int .i64 (m'.taken:Int)):=by rw[cell_at HC.out];rfl
     have c_3:W.cell? ⟨bw,3,none⟩=some (.int .i64 (m'.gen:Int)):=by rw[cell_at HC.out];rfl
     have c_4:W.cell? ⟨bw,4,none⟩=some (.slice pp1 D'.length pc1):=by rw[cell_at HC.out];rfl
     have HJ1:=Lib.hid (show (#[.int .i64 (m'.half:Int),.slice q1 x1 c1,.int .i64 (m'.taken:Int),.int .i64 (m'.gen:Int),.slice pp1 D'.length pc1]:Array Value).all (·.oneCell')=true by simp[Value.oneCell'])
     have HBXW:=Lib.hid HST2.out.box
     have HJ0:=Lib.hid (show (Tryz.prog.info? 34).map (·.size)=some (#[.int .i64 (m'.half:Int),.slice q1 x1 c1,.int .i64 (m'.taken:Int),.int .i64 (m'.gen:Int),.slice pp1 D'.length pc1]:Array Value).size from i34)
     have HJ2:=Lib.hid (show (#[y1,y2,y3,y4,y5]:Array Value).size=(#[.int .i64 (m'.half:Int),.slice q1 x1 c1,.int .i64 (m'.taken:Int),.int .i64 (m'.gen:Int),.slice pp1 D'.length pc1]:Array Value).size from rfl)
     go_wp2_with (with_reducible refine wpList_put 34 bx _ _ rfl rfl HBXW.out HJ0.out HJ2.out HJ1.out ?_)
     intro w6 hg hgr
     have HST6:=Lib.hid (HST2.out.put HJ hgr hg HDS.out)
     have HB6:=Lib.hid (below_put HBW.out hgr HST2.out.sz HST2.out.bb)
     clear hg hgr c_0 c_1 c_2 c_3 c_4 HC HDS HBW HST2 HBXW HJ0 HJ1 HJ2
     obtain⟨av,hav⟩:∃av:Value,.agg #[lv,.bool x.cp,.int .i64 x.k1,.int .u64 x.k2,.int .i64 x.k3]=av:=⟨_,rfl⟩
     have HAV:=Lib.hid hav
     have HDO:=Lib.hid (fun (W:World) (hW:Below w6.heap.size w6 W)=>PlX.does HJ HG HT hdA hdN (bx:=bx) (j:=j) (sb:=sj) (by omega) x HOA.out (by rw[HM'.out,HD'.out];exact HST6.out.below HJ hW) HPI.out HNB.out HDK.out (HB6.out.trans (hW.mono HST6.out.sz)) lv (HIN0.out.below (Nat.le_refl _) (HB6.out.trans (hW.mono HST6.out.sz))).ch)
     rw[HZ.out,HM'.out,HD'.out,hav]at HDO
     have HWB:=Lib.hid (show ∀(b1:Bool) (W:World),WI2 (PlX w.heap.size JS good tx al dk dp w bx (j+1) sj #[.int .i64 (m'.half:Int),.slice q1 x1 c1,.int .i64 (m'.taken:Int),.int .i64 (m'.gen:Int),.slice pp1 D'.length pc1] m' D') (Below w6.heap.size w6) b1 W→Below w.heap.size w W∧W.heap[bx]?=some (.cells #[.int .i64 (m'.half:Int),.slice q1 x1 c1,.int .i64 (m'.taken:Int),.int .i64 (m'.gen:Int),.slice pp1 D'.length pc1] 34 (0,0))from fun b1 W h=>by
      cases b1 with
      |false=>exact⟨HB6.out.trans (Below.mono h HST6.out.sz),(Below.block h bx (Array.getElem?_eq_some_iff.1 HST6.out.box).1).trans HST6.out.box⟩
      |true=>exact PlX.box h)
     have hj41:j+1≤41:=by omega
     clear HST6 HB6 HPI HNB HDK HBL HZ HM' HD' HIN HIN0 HOA
     obtain⟨KK,hKK⟩:∃KK,(D'.map Prod.fst).filter (begB · pre)=KK:=⟨_,rfl⟩
     have HKK:=Lib.hid hKK
     clear hKK hav
     go_wp2_with fail
     refine wp_region_fine_spec 26 5 (by decide) (WI2 (PlX w.heap.size JS good tx al dk dp w bx (j+1) sj #[.int .i64 (m'.half:Int),.slice q1 x1 c1,.int .i64 (m'.taken:Int),.int .i64 (m'.gen:Int),.slice pp1 D'.length pc1] m' D') (Below w6.heap.size w6)) (fun _ _=>True) (PT14 sj p n cap j q qo av z bx (.slice pp1 D'.length pc1) pre KK) (by kernel_rfl) (by kernel_rfl) (by kernel_rfl) (by kernel_rfl) ⟨rfl,rfl,rfl,Nat.le_refl _,fun _ _=>rfl⟩ ?_ ?_ (fun _ _ _ _ h hB=>h.last hB) ?_ ?_ ?_ ?_
     ·intro b1 W W' h hB
      cases b1 with
      |true=>exact PlX.below HJ h hB
      |false=>exact Below.trans h (hB.mono (Below.size h))
     ·intro ix oo v W W' ho hw hne hT _
      simp only[List.take_succ_cons,List.take_zero]at ho
      by_cases h18:ix=18
      ·subst h18
       obtain rfl:=Option.some.inj ho
       exact absurd hw (by decide +kernel)
      ·by_cases h22:ix=22
       ·subst h22
        obtain rfl:=Option.some.inj ho
        exact absurd hw (by decide +kernel)
       ·exact hT.plain h18 h22
     ·intro ix oo jj b1 ho hg v W hT
      simp only[List.take_succ_cons,List.take_zero]at ho
      match ix,ho with
      |0,ho=>obtain rfl:=Option.some.inj ho;cases hg
      |1,ho=>obtain rfl:=Option.some.inj ho;cases hg
      |2,ho=>obtain rfl:=Option.some.inj ho;cases hg
      |3,ho=>obtain rfl:=Option.some.inj ho;cases hg
      |4,ho=>obtain rfl:=Option.some.inj ho;cases hg
      |5,ho=>obtain rfl:=Option.some.inj ho;cases hg
      |6,ho=>obtain rfl:=Option.some.inj ho;cases hg
      |7,ho=>obtain rfl:=Option.some.inj ho;cases hg
      |8,ho=>obtain rfl:=Option.some.inj ho;cases hg
      |9,ho=>obtain rfl:=Option.some.inj ho;obtain⟨rfl,rfl⟩:=Prod.mk.inj (Option.some.inj hg);exact hT
      |10,ho=>obtain rfl:=Option.some.inj ho;obtain⟨rfl,rfl⟩:=Prod.mk.inj (Option.some.inj hg);exact hT
      |11,ho=>obtain rfl:=Option.some.inj ho;obtain⟨rfl,rfl⟩:=Prod.mk.inj (Option.some.inj hg);exact hT
      |12,ho=>obtain rfl:=Option.some.inj ho;obtain⟨rfl,rfl⟩:=Prod.mk.inj (Option.some.inj hg);exact hT
      |13,ho=>obtain rfl:=Option.some.inj ho;obtain⟨rfl,rfl⟩:=Prod.mk.inj (Option.some.inj hg);exact hT
      |14,ho=>obtain rfl:=Option.some.inj ho;cases hg
      |15,ho=>obtain rfl:=Option.some.inj ho;cases hg
      |16,ho=>obtain rfl:=Option.some.inj ho;obtain⟨rfl,rfl⟩:=Prod.mk.inj (Option.some.inj hg);exact hT
      |17,ho=>obtain rfl:=Option.some.inj ho;obtain⟨rfl,rfl⟩:=Prod.mk.inj (Option.some.inj hg);exact hT
      |18,ho=>obtain rfl:=Option.some.inj ho;obtain⟨rfl,rfl⟩:=Prod.mk.inj (Option.some.inj hg);exact hT
      |19,ho=>obtain rfl:=Option.some.inj ho;obtain⟨rfl,rfl⟩:=Prod.mk.inj (Option.some.inj hg);exact hT
      |20,ho=>obtain rfl:=Option.some.inj ho;obtain⟨rfl,rfl⟩:=Prod.mk.inj (Option.some.inj hg);exact hT
      |21,ho=>obtain rfl:=Option.some.inj ho;obtain⟨rfl,rfl⟩:=Prod.mk.inj (Option.some.inj hg);exact hT
      |22,ho=>obtain rfl:=Option.some.inj ho;obtain⟨rfl,rfl⟩:=Prod.mk.inj (Option.some.inj hg);exact hT
      |23,ho=>obtain rfl:=Option.some.inj ho;obtain⟨rfl,rfl⟩:=Prod.mk.inj (Option.some.inj hg);exact hT
      |24,ho=>obtain rfl:=Option.some.inj ho;obtain⟨rfl,rfl⟩:=Prod.mk.inj (Option.some.inj hg);exact hT
      |25,ho=>obtain rfl:=Option.some.inj ho;cases hg
      |ix+26,ho=>simp at ho
     ·intro oo ho a W hWI hdep hfix Q
      simp only[List.take_succ_cons,List.take_zero]at ho hdep hfix
      simp only[List.getElem?_cons_zero,List.getElem?_cons_succ,Option.some.injEq]at ho
      subst ho
      have e1:a.tmps.getD 61 undef=.pointer (some ⟨sj,0,none⟩):=hdep 0 _ 61 rfl rfl (by decide +kernel)
      have e2:a.tmps.getD 65 undef=av:=hdep 4 _ 65 rfl rfl (by decide +kernel)
      refine wp_callU #[.pointer (some ⟨sj,0,none⟩),av] (by simp[Act.eval,e1,e2]) (by rw[←HAV.out];kernel_rfl) ((HDO.out W hWI).mono ?_)
      rintro e W' ⟨rfl,hP⟩
      exact⟨_,rfl,_,rfl,trivial,hP,rfl⟩
     ·intro ix oo ho hne a W b1 hWI hwt hdep hfix
      simp only[List.take_succ_cons,List.take_zero]at ho hdep hfix
      match ix,ho with
      |0,ho =>
       obtain rfl:=Option.some.inj ho
       have e1:a.tmps.getD 8 undef=.pointer (some ⟨sj,0,none⟩):=hfix 8 (by decide +kernel)
       exact lays_eq _ rfl (exec_move (by rw[eval_tmp,e1]))
      |1,ho =>
       obtain rfl:=Option.some.inj ho
       have e1:a.tmps.getD 1 undef=.slice p n cap:=hfix 1 (by decide +kernel)
       exact lays_eq _ rfl (exec_move (by rw[eval_tmp,e1]))
      |2,ho =>
       obtain rfl:=Option.some.inj ho
       have e1:a.tmps.getD 10 undef=.int .i64 (j:Int):=hfix 10 (by decide +kernel)
       exact lays_eq _ rfl (exec_move (by rw[eval_tmp,e1]))
      |3,ho =>
       obtain rfl:=Option.some.inj ho
       have e1:a.tmps.getD 62 undef=.slice p n cap:=hdep 1 _ 62 rfl rfl (by decide +kernel)
       have e2:a.tmps.getD 63 undef=.int .i64 (j:Int):=hdep 2 _ 63 rfl rfl (by decide +kernel)
       exact lays_eq _ rfl (exec_ix22 (by rw[eval_tmp,e1]) HPQ.out (by rw[eval_tmp,e2]) hlt)
      |4,ho =>
       obtain rfl:=Option.some.inj ho
       have e1:a.tmps.getD 64 undef=.pointer (some ⟨q,qo+j*5,none⟩):=hdep 3 _ 64 rfl rfl (by decide +kernel)
       have hbw:=(HWB.out b1 W hWI).1
       refine lays_eq _ rfl (exec_ldT (by rw[eval_tmp,e1]) ?_)
       rw[←HAV.out]
       exact ld43 ((hbw.cell (p:=⟨q,qo+j*5,none⟩) HQ.out).trans E0.out) ((hbw.cell (p:=⟨q,qo+j*5+1,none⟩) HQ.out).trans E1.out) ((hbw.cell (p:=⟨q,qo+j*5+2,none⟩) HQ.out).trans E2.out) ((hbw.cell (p:=⟨q,qo+j*5+3,none⟩) HQ.out).trans E3.out) ((hbw.cell (p:=⟨q,qo+j*5+4,none⟩) HQ.out).trans E4.out)
      |5,ho=>exact absurd rfl hne
      |6,ho =>
       obtain rfl:=Option.some.inj ho
       have e1:a.tmps.getD 12 undef=.int .i64 z:=hfix 12 (by decide +kernel)
       exact lays_eq _ rfl (exec_move (by rw[eval_tmp,e1]))
      |7,ho =>
       obtain rfl:=Option.some.inj ho
       have e1:a.tmps.getD 66 undef=.int .i64 z:=hdep 5 _ 66 rfl rfl (by decide +kernel)
       have e2:a.tmps.getD 67 undef=.int .i64 z:=hdep 6 _ 67 rfl rfl (by decide +kernel)
       exact lays_eq _ rfl (exec_neq3 (by rw[eval_tmp,e1]) (by rw[eval_tmp,e2]))
      |8,ho =>
       obtain rfl:=Option.some.inj ho
       have e1:a.tmps.getD 68 undef=.bool false:=hdep 7 _ 68 rfl rfl (by decide +kernel)
       exact lays_eq _ rfl (exec_move (by rw[eval_tmp,e1]))
      |9,ho =>
       obtain rfl:=Option.some.inj ho
       have e1:a.tmps.getD 8 undef=.pointer (some ⟨sj,0,none⟩):=hfix 8 (by decide +kernel)
       exact lays_eq _ rfl (exec_move (by rw[eval_tmp,e1]))
      |10,ho =>
       obtain rfl:=Option.some.inj ho
       have e1:a.tmps.getD 9 undef=.pointer (some ⟨bx,0,none⟩):=hfix 9 (by decide +kernel)
       exact lays_eq _ rfl (exec_fa34 (by rw[eval_tmp,e1]))
      |11,ho =>
       obtain rfl:=Option.some.inj ho
       have e1:a.tmps.getD 71 undef=.pointer (some ⟨bx,4,none⟩):=hdep 10 _ 71 rfl rfl (by decide +kernel)
       exact lays_eq _ rfl (exec_ldT (by rw[eval_tmp,e1]) (ld32 (by rw[cell_at (HWB.out b1 W hWI).2];rfl)))
      |12,ho =>
       obtain rfl:=Option.some.inj ho
       have e1:a.tmps.getD 70 undef=.pointer (some ⟨sj,0,none⟩):=hdep 9 _ 70 rfl rfl (by decide +kernel)
       have e2:a.tmps.getD 72 undef=(.slice pp1 D'.length pc1):=hdep 11 _ 72 rfl rfl (by decide +kernel)
       obtain rfl:=hwt (by decide +kernel)
       refine lays_call #[.pointer (some ⟨sj,0,none⟩),.slice pp1 D'.length pc1] (by simp[Act.eval,e1,e2]) (by kernel_rfl) ((PlX.tells HJ hj41 hWI).mono ?_)
       rintro e W' ⟨rfl,hB'⟩
       exact⟨_,rfl,hB',rfl⟩
      |13,ho =>
       obtain rfl:=Option.some.inj ho
       have e1:a.tmps.getD 73 undef=.bool true:=hdep 12 _ 73 rfl rfl (by decide +kernel)
       exact lays_eq _ rfl (exec_not4 (b:=true) (by rw[eval_tmp,e1]))
      |14,ho =>
       obtain rfl:=Option.some.inj ho
       have e1:a.tmps.getD 69 undef=.bool false:=hdep 8 _ 69 rfl rfl (by decide +kernel)
       have e2:a.tmps.getD 74 undef=.bool false:=hdep 13 _ 74 rfl rfl (by decide +kernel)
       exact lays_eq _ rfl (exec_pickF (by rw[eval_tmp,e1]) (by rw[eval_tmp,e2]))
      |15,ho =>
       obtain rfl:=Option.some.inj ho
       have e1:a.tmps.getD 75 undef=.bool false:=hdep 14 _ 75 rfl rfl (by decide +kernel)
       exact lays_eq _ rfl (exec_move (by rw[eval_tmp,e1]))
      |16,ho =>
       obtain rfl:=Option.some.inj ho
       have e1:a.tmps.getD 8 undef=.pointer (some ⟨sj,0,none⟩):=hfix 8 (by decide +kernel)
       exact lays_eq _ rfl (exec_move (by rw[eval_tmp,e1]))
      |17,ho =>
       obtain rfl:=Option.some.inj ho
       have e1:a.tmps.getD 2 undef=.string pre:=hfix 2 (by decide +kernel)
       exact lays_eq _ rfl (exec_move (by rw[eval_tmp,e1]))
      |18,ho =>
       obtain rfl:=Option.some.inj ho
       have e1:a.tmps.getD 77 undef=.pointer (some ⟨sj,0,none⟩):=hdep 16 _ 77 rfl rfl (by decide +kernel)
       have e2:a.tmps.getD 78 undef=.string pre:=hdep 17 _ 78 rfl rfl (by decide +kernel)
       obtain rfl:=hwt (by decide +kernel)
       refine lays_call #[.pointer (some ⟨sj,0,none⟩),.string pre] (by simp[Act.eval,e1,e2]) (by kernel_rfl) ((PlX.keys hj41 pre hWI).mono ?_)
       rintro e W' ⟨v,rfl,hv,hB'⟩
       rw[HKK.out]at hv
       exact⟨_,rfl,hB',hv⟩
      |19,ho =>
       obtain rfl:=Option.some.inj ho
       have e1:a.tmps.getD 9 undef=.pointer (some ⟨bx,0,none⟩):=hfix 9 (by decide +kernel)
       exact lays_eq _ rfl (exec_fa34 (by rw[eval_tmp,e1]))
      |20,ho =>
       obtain rfl:=Option.some.inj ho
       have e1:a.tmps.getD 80 undef=.pointer (some ⟨bx,4,none⟩):=hdep 19 _ 80 rfl rfl (by decide +kernel)
       exact lays_eq _ rfl (exec_ldT (by rw[eval_tmp,e1]) (ld32 (by rw[cell_at (HWB.out b1 W hWI).2];rfl)))
      |21,ho =>
       obtain rfl:=Option.some.inj ho
       have e1:a.tmps.getD 2 undef=.string pre:=hfix 2 (by decide +kernel)
       exact lays_eq _ rfl (exec_move (by rw[eval_tmp,e1]))
      |22,ho =>
       obtain rfl:=Option.some.inj ho
       have e1:a.tmps.getD 81 undef=(.slice pp1 D'.length pc1):=hdep 20 _ 81 rfl rfl (by decide +kernel)
       have e2:a.tmps.getD 82 undef=.string pre:=hdep 21 _ 82 rfl rfl (by decide +kernel)
       obtain rfl:=hwt (by decide +kernel)
       refine lays_call #[.slice pp1 D'.length pc1,.string pre] (by simp[Act.eval,e1,e2]) (by kernel_rfl) ((PlX.rkeys hj41 pre hWI).mono ?_)
       rintro e W' ⟨v,rfl,hv,hB'⟩
       rw[HKK.out]at hv
       exact⟨_,rfl,hB',hv⟩
      |23,ho =>
       obtain rfl:=Option.some.inj ho
       obtain⟨v1,e1,hs1⟩:∃v1,a.tmps.getD 79 undef=v1∧StrRow W v1 KK:=⟨_,rfl,hdep 18 _ 79 rfl rfl (by decide +kernel)⟩
       obtain⟨v2,e2,hs2⟩:∃v1,a.tmps.getD 83 undef=v1∧StrRow W v1 KK:=⟨_,rfl,hdep 22 _ 83 rfl rfl (by decide +kernel)⟩
       obtain rfl:=hwt (by decide +kernel)
       have hkl:=PlX.klen hj41 pre hWI
       rw[HKK.out]at hkl
       refine lays_call #[v1,v2] (by simp[Act.eval,e1,e2]) (by kernel_rfl) ((texts_any KK KK v1 v2 W hs1 hs2 hkl hkl).mono ?_)
       rintro e W' ⟨rfl,hB'⟩
       exact⟨_,rfl,hB',by show _=Value.bool true;simp[sameL]⟩
      |24,ho =>
       obtain rfl:=Option.some.inj ho
       have e1:a.tmps.getD 84 undef=.bool true:=hdep 23 _ 84 rfl rfl (by decide +kernel)
       exact lays_eq _ rfl (exec_not4 (b:=true) (by rw[eval_tmp,e1]))
      |25,ho =>
       obtain rfl:=Option.some.inj ho
       have e1:a.tmps.getD 76 undef=.bool false:=hdep 15 _ 76 rfl rfl (by decide +kernel)
       have e2:a.tmps.getD 85 undef=.bool false:=hdep 24 _ 85 rfl rfl (by decide +kernel)
       exact lays_eq _ rfl (exec_pickF (by rw[eval_tmp,e1]) (by rw[eval_tmp,e2]))
      |ix+26,ho=>simp at ho
     ·intro a W hWI hd hsz hfix hT
      simp only[List.take_succ_cons,List.take_zero,List.drop_succ_cons,List.drop_zero]at hfix hT ⊢
      have f0:a.tmps.getD 0 undef=.int .i64 (k:Int):=hfix 0 (by decide +kernel)
      have f1:a.tmps.getD 1 undef=.slice p n cap:=hfix 1 (by decide +kernel)
      have f2:a.tmps.getD 2 undef=.string pre:=hfix 2 (by decide +kernel)
      have f3:a.tmps.getD 3 undef=undef:=hfix 3 (by decide +kernel)
      have f4:a.tmps.getD 4 undef=undef:=hfix 4 (by decide +kernel)
      have f5:a.tmps.getD 5 undef=undef:=hfix 5 (by decide +kernel)
      have f7:a.tmps.getD 7 undef=.pointer (some dp):=hfix 7 (by decide +kernel)
      have f8:a.tmps.getD 8 undef=.pointer (some ⟨sj,0,none⟩):=hfix 8 (by decide +kernel)
      have f9:a.tmps.getD 9 undef=.pointer (some ⟨bx,0,none⟩):=hfix 9 (by decide +kernel)
      have f10:a.tmps.getD 10 undef=.int .i64 (j:Int):=hfix 10 (by decide +kernel)
      have f13:a.tmps.getD 13 undef=.bool true:=hfix 13 (by decide +kernel)
      have f14:a.tmps.getD 14 undef=.bool false:=hfix 14 (by decide +kernel)
      have f15:a.tmps.getD 15 undef=.slice p n cap:=hfix 15 (by decide +kernel)
      have f16:a.tmps.getD 16 undef=.bool true:=hfix 16 (by decide +kernel)
      have f17:a.tmps.getD 17 undef=.bool false:=hfix 17 (by decide +kernel)
      have f18:a.tmps.getD 18 undef=.bool false:=hfix 18 (by decide +kernel)
      have f19:a.tmps.getD 19 undef=.int .i64 (k:Int):=hfix 19 (by decide +kernel)
      have f20:a.tmps.getD 20 undef=.bool false:=hfix 20 (by decide +kernel)
      have f21:a.tmps.getD 21 undef=.bool false:=hfix 21 (by decide +kernel)
      have f22:a.tmps.getD 22 undef=.bool false:=hfix 22 (by decide +kernel)
      have f23:a.tmps.getD 23 undef=.int .i64 (k:Int):=hfix 23 (by decide +kernel)
      have f24:a.tmps.getD 24 undef=.bool false:=hfix 24 (by decide +kernel)
      have f25:a.tmps.getD 25 undef=.bool false:=hfix 25 (by decide +kernel)
      have f26:a.tmps.getD 26 undef=.bool false:=hfix 26 (by decide +kernel)
      have f27:a.tmps.getD 27 undef=.int .i64 (k:Int):=hfix 27 (by decide +kernel)
      have f28:a.tmps.getD 28 undef=.int .i64 0:=hfix 28 (by decide +kernel)
      have f29:a.tmps.getD 29 undef=.bool false:=hfix 29 (by decide +kernel)
      have f30:a.tmps.getD 30 undef=.bool false:=hfix 30 (by decide +kernel)
      have f31:a.tmps.getD 31 undef=.bool false:=hfix 31 (by decide +kernel)
      have f32:a.tmps.getD 32 undef=.string pre:=hfix 32 (by decide +kernel)
      have f33:a.tmps.getD 33 undef=.int .i64 (pre.size:Int):=hfix 33 (by decide +kernel)
      have f34:a.tmps.getD 34 undef=.bool (decide ((50:Int)<(pre.size:Int))):=hfix 34 (by decide +kernel)
      have f35:a.tmps.getD 35 undef=.bool (decide ((50:Int)<(pre.size:Int))):=hfix 35 (by decide +kernel)
      have f36:a.tmps.getD 36 undef=.tuple #[.pointer (some dp),.pointer (some ⟨sb,0,none⟩)]:=hfix 36 (by decide +kernel)
      have f37:a.tmps.getD 37 undef=.int .i64 (k:Int):=hfix 37 (by decide +kernel)
      have f38:a.tmps.getD 38 undef=.tuple #[.pointer (some dp),.pointer (some ⟨sb,0,none⟩)]:=hfix 38 (by decide +kernel)
      have f39:a.tmps.getD 39 undef=.pointer (some dp):=hfix 39 (by decide +kernel)
      have f40:a.tmps.getD 40 undef=.pointer (some ⟨sb,0,none⟩):=hfix 40 (by decide +kernel)
      have f41:a.tmps.getD 41 undef=.pointer (some ⟨sb,0,none⟩):=hfix 41 (by decide +kernel)
      have f42:a.tmps.getD 42 undef=.bool false:=hfix 42 (by decide +kernel)
      have f43:a.tmps.getD 43 undef=.int .i64 (k:Int):=hfix 43 (by decide +kernel)
      have f44:a.tmps.getD 44 undef=.agg #[.int .i64 (hh:Int),.slice q0 x0 c0,.int .i64 0,.int .i64 0,.slice p0 0 cp0]:=hfix 44 (by decide +kernel)
      have f86:a.tmps.getD 86 undef=.bool false:=hT 25 _ 86 rfl rfl
      have HPX:Hid (PlX w.heap.size JS good tx al dk dp w bx (j+1) sj #[.int .i64 (m'.half:Int),.slice q1 x1 c1,.int .i64 (m'.taken:Int),.int .i64 (m'.gen:Int),.slice pp1 D'.length pc1] m' D' W):=Lib.hid hWI
      rw[frame_lit a 101 hsz hd]
      clear hfix hT hsz hd hWI
      simp only[List.range,List.range.loop,List.map]
      generalize a.tmps=t2 at *
      simp only[f0,f1,f2,f3,f4,f5,f7,f8,f9,f10,f13,f14,f15,f16,f17,f18,f19,f20,f21,f22,f23,f24,f25,f26,f27,f28,f29,f30,f31,f32,f33,f34,f35,f36,f37,f38,f39,f40,f41,f42,f43,f44,f86]
      clear f0 f1 f2 f3 f4 f5 f7 f8 f9 f10 f13 f14 f15 f16 f17 f18 f19 f20 f21 f22 f23 f24 f25 f26 f27 f28 f29 f30 f31 f32 f33 f34 f35 f36 f37 f38 f39 f40 f41 f42 f43 f44 f86 HDO HWB HKK HAV
      by_cases h4:j%4=3
      ·have h4i:(j:Int).tmod 4=3:=by rw[Int.tmod_eq_emod_of_nonneg (by omega)];omega
       have HAG:=Lib.hid (PlX.again HJ HOP HPX.out)
       clear HPX
       go_wp2_with fail
       refine HAG.out.mono ?_
       rintro e w8 ⟨sb',rfl,hP⟩
       have HPX:=Lib.hid hP
       have HTE:=Lib.hid (PlX.tells HJ hj41 hP)
       have c_4:w8.cell? ⟨bx,4,none⟩=some (.slice pp1 D'.length pc1):=by rw[cell_at (PlX.box hP).2];rfl
       clear hP HAG
       go_wp2_with fail
       refine HTE.out.mono ?_
       rintro e w9 ⟨rfl,hB9⟩
       have HP9:=Lib.hid (HPX.out.below HJ hB9)
       clear HPX HTE c_4 hB9
       go_wp2
       go_roundw
       case rel=>exact⟨j+1,sb',by omega,by go_num,rfl,Lib.hid (by obtain⟨O,S,jp,b,nb,s,g,h1,h2,h3,h4,h5⟩:=HP9.out;exact⟨O,S,jp,b,nb,s,g,_,_,_,h1,h2,h3,h4,h5⟩)⟩
       case measure=>simp[intOf];omega
      ·have h4i:¬(j:Int).tmod 4=3:=by rw[Int.tmod_eq_emod_of_nonneg (by omega)];omega
       go_wp2
       go_roundw
       case rel=>exact⟨j+1,sj,by omega,by go_num,rfl,Lib.hid (by obtain⟨O,S,jp,b,nb,s,g,h1,h2,h3,h4,h5⟩:=HPX.out;exact⟨O,S,jp,b,nb,s,g,_,_,_,h1,h2,h3,h4,h5⟩)⟩
       case measure=>simp[intOf];omega
   ·obtain rfl:j=n:=by omega
    obtain⟨_,_,_,_,_,_,_,_,_,_,_,_,_,_,hbl⟩:=HP.out
    go_wp2
    go_ret
    exact⟨rfl,hbl⟩
 ·have hev0:size.tmod 2=1:=by rw[htm];omega
  clear htm hev
  go_wp2
  all_goals (go_ret;exact⟨rfl,HB2.out⟩)
end
end Go.Proofs.YtlogjpmdfimgdaaGreatDoor

/- Apply (f48) again, with where the values' lists lie: by contract. No condition but the sizes. -/
import Derived.Test.YtlogjpmdfimgdaaGreatDoorX10
namespace Go.Proofs.YtlogjpmdfimgdaaGreatDoor
open Go Go.RowKit Go.Own Go.Own.Fr Go.Maps Go.WideMaps
def PRowT(w:World)(v:Value)(D:List Pr)(T:Nat):Prop :=
 ∃p cap,v=.slice p D.length cap∧D.length≤cap∧∀(j:Nat) (x:Pr),D[j]?=some x→∃b o c0 c1 c2 c3 c4,p=some ⟨b,o,none⟩∧b<w.heap.size∧x.1.size≤9223372036854775807 ∧
  w.cell? ⟨b,o+j*6,none⟩=some (.string x.1)∧w.cell? ⟨b,o+j*6+1,none⟩=some c0∧w.cell? ⟨b,o+j*6+2,none⟩=some c1∧w.cell? ⟨b,o+j*6+3,none⟩=some c2∧w.cell? ⟨b,o+j*6+4,none⟩=some c3∧w.cell? ⟨b,o+j*6+5,none⟩=some c4∧VAt w (fun b=>b<T) (.agg #[c0,c1,c2,c3,c4]) x.2
theorem PRowT.row{w:World}{v:Value}{D:List Pr}{T:Nat}(h:PRowT w v D T):PRow w v D:=by
 obtain⟨p,cap,h1,h2,h3⟩:=h
 refine⟨p,cap,h1,h2,fun j x hx=>?_⟩
 obtain⟨b,o,c0,c1,c2,c3,c4,e1,e2,e3,g0,g1,g2,g3,g4,g5,g6⟩:=h3 j x hx
 exact⟨b,o,c0,c1,c2,c3,c4,e1,e2,e3,g0,g1,g2,g3,g4,g5,g6.holds⟩
theorem PRowT.below{w w':World}{v:Value}{D:List Pr}{T:Nat}(h:PRowT w v D T)(hT:T≤w.heap.size)(hB:Below w.heap.size w w'):PRowT w' v D T:=by
 obtain⟨p,cap,h1,h2,h3⟩:=h
 refine⟨p,cap,h1,h2,fun j x hx=>?_⟩
 obtain⟨b,o,c0,c1,c2,c3,c4,e1,e2,e3,g0,g1,g2,g3,g4,g5,g6⟩:=h3 j x hx
 exact⟨b,o,c0,c1,c2,c3,c4,e1,Nat.lt_of_lt_of_le e2 hB.size,e3,(hB.cell e2).trans g0,(hB.cell e2).trans g1,(hB.cell e2).trans g2,(hB.cell e2).trans g3,(hB.cell e2).trans g4,(hB.cell e2).trans g5,g6.under hT hB⟩
theorem OwnPr.rowTT{w:World}{B T:Nat}{v:Value}{D:List Pr}(h:OwnPr w B T v D):PRowT w v D T:=h.rowT
def InChT(w:World)(v:Value)(l:List (ByteArray×V×Bool))(T:Nat):Prop :=
 ∃p cap,v=.slice p l.length cap∧l.length≤cap∧∀(j:Nat) (x:ByteArray×V×Bool),l[j]?=some x→∃b o c0 c1 c2 c3 c4,p=some ⟨b,o,none⟩∧b<w.heap.size∧w.cell? ⟨b,o+j*7,none⟩=some (.string x.1) ∧
  w.cell? ⟨b,o+j*7+1,none⟩=some c0∧w.cell? ⟨b,o+j*7+2,none⟩=some c1∧w.cell? ⟨b,o+j*7+3,none⟩=some c2∧w.cell? ⟨b,o+j*7+4,none⟩=some c3∧w.cell? ⟨b,o+j*7+5,none⟩=some c4∧w.cell? ⟨b,o+j*7+6,none⟩=some (.bool x.2.2) ∧
  VAt w (fun b=>b<T) (.agg #[c0,c1,c2,c3,c4]) x.2.1
theorem InChT.ch{w:World}{v:Value}{l:List (ByteArray×V×Bool)}{T:Nat}(h:InChT w v l T):InCh w v l:=by
 obtain⟨p,cap,h1,h2,h3⟩:=h
 refine⟨p,cap,h1,h2,fun j x hx=>?_⟩
 obtain⟨b,o,c0,c1,c2,c3,c4,e1,e2,g0,g1,g2,g3,g4,g5,g6,g7⟩:=h3 j x hx
 exact⟨b,o,c0,c1,c2,c3,c4,e1,e2,g0,g1,g2,g3,g4,g5,g6,g7.holds⟩
theorem InChT.of{w:World}{v:Value}{l:List (ByteArray×V×Bool)}(h:InCh w v l):InChT w v l w.heap.size:=by
 obtain⟨p,cap,h1,h2,h3⟩:=h
 refine⟨p,cap,h1,h2,fun j x hx=>?_⟩
 obtain⟨b,o,c0,c1,c2,c3,c4,e1,e2,g0,g1,g2,g3,g4,g5,g6,g7⟩:=h3 j x hx
 exact⟨b,o,c0,c1,c2,c3,c4,e1,e2,g0,g1,g2,g3,g4,g5,g6,VAt.lower g7⟩
theorem InChT.below{w w':World}{v:Value}{l:List (ByteArray×V×Bool)}{T:Nat}(h:InChT w v l T)(hT:T≤w.heap.size)(hB:Below w.heap.size w w'):InChT w' v l T:=by
 obtain⟨p,cap,h1,h2,h3⟩:=h
 refine⟨p,cap,h1,h2,fun j x hx=>?_⟩
 obtain⟨b,o,c0,c1,c2,c3,c4,e1,e2,g0,g1,g2,g3,g4,g5,g6,g7⟩:=h3 j x hx
 exact⟨b,o,c0,c1,c2,c3,c4,e1,Nat.lt_of_lt_of_le e2 hB.size,(hB.cell e2).trans g0,(hB.cell e2).trans g1,(hB.cell e2).trans g2,(hB.cell e2).trans g3,(hB.cell e2).trans g4,(hB.cell e2).trans g5,(hB.cell e2).trans g6,g7.under hT hB⟩
theorem PRowT.cz{w:World}{v:Value}{D:List Pr}{T:Nat}(h:PRowT w v D T):∃p cap,v=.slice p D.length cap∧D.length≤cap∧∃l:List (ByteArray×Cz),l.length=D.length ∧
  (∀(j:Nat) (x:ByteArray×Cz) (y:Pr),l[j]?=some x→D[j]?=some y→x.1=y.1∧y.1.size≤9223372036854775807∧VAt w (fun b=>b<T) x.2.agg y.2) ∧
  (D.length=0∨∃b o,p=some ⟨b,o,none⟩∧b<w.heap.size∧∀(k:Nat) (u:Value),(chP l)[k]?=some u→w.cell? ⟨b,o+k,none⟩=some u):=by
 obtain⟨p,cap,rfl,hcap,hrow⟩:=h
 refine⟨p,cap,rfl,hcap,?_⟩
 have key:∀n,n≤D.length→∃l:List (ByteArray×Cz),l.length=n∧∀(j:Nat) (x:ByteArray×Cz),l[j]?=some x→∃y b o,D[j]?=some y∧p=some ⟨b,o,none⟩∧b<w.heap.size∧x.1=y.1∧y.1.size≤9223372036854775807∧VAt w (fun b=>b<T) x.2.agg y.2 ∧
   w.cell? ⟨b,o+j*6,none⟩=some (.string x.1)∧w.cell? ⟨b,o+j*6+1,none⟩=some x.2.1∧w.cell? ⟨b,o+j*6+2,none⟩=some x.2.2.1∧w.cell? ⟨b,o+j*6+3,none⟩=some x.2.2.2.1∧w.cell? ⟨b,o+j*6+4,none⟩=some x.2.2.2.2.1∧w.cell? ⟨b,o+j*6+5,none⟩=some x.2.2.2.2.2:=by
  intro n
  induction n with
  |zero=>exact fun _=>⟨[],rfl,fun j x hx=>by simp at hx⟩
  |succ n ih =>
   intro hn
   obtain⟨l,hl,hall⟩:=ih (by omega)
   obtain⟨y,hy⟩:∃y,D[n]?=some y:=⟨D[n],List.getElem?_eq_getElem _⟩
   obtain⟨b,o,c0,c1,c2,c3,c4,e1,e2,e3,g0,g1,g2,g3,g4,g5,g6⟩:=hrow n y hy
   refine⟨l++[(y.1,c0,c1,c2,c3,c4)],by simp[hl],fun j x hx=>?_⟩
   by_cases hj:j<l.length
   ·rw[List.getElem?_append_left hj]at hx
    exact hall j x hx
   ·rw[List.getElem?_append_right (by omega)]at hx
    have hj0:j-l.length=0:=by
     rcases Nat.eq_zero_or_pos (j-l.length)with h0 | h0
     ·exact h0
     ·rw[List.getElem?_eq_none (by simp;omega)]at hx;cases hx
    rw[hj0]at hx
    simp only[List.getElem?_cons_zero,Option.some.injEq]at hx
    subst hx
    obtain rfl:j=n:=by omega
    exact⟨y,b,o,hy,e1,e2,rfl,e3,g6,g0,g1,g2,g3,g4,g5⟩
 obtain⟨l,hl,hall⟩:=key D.length (Nat.le_refl _)
 refine⟨l,hl,fun j x y hx hy=>?_,?_⟩
 ·obtain⟨y',b,o,h1,_,_,h2,h3,h4,_⟩:=hall j x hx
  obtain rfl:=Option.some.inj (h1.symm.trans hy)
  exact⟨h2,h3,h4⟩
 ·rcases Nat.eq_zero_or_pos D.length with h0 | h0
  ·exact Or.inl h0
  ·obtain⟨_,b,o,_,e1,e2,_⟩:=hall 0 (l[0]'(by omega)) (List.getElem?_eq_getElem _)
   refine Or.inr ⟨b,o,e1,e2,fun k u hk=>?_⟩
   have hkl:k<l.length*6:=by rw[←chP_length];exact(List.getElem?_eq_some_iff.1 hk).1
   have hjl:k/6<l.length:=by omega
   obtain⟨x,hx⟩:∃x,l[k/6]?=some x:=⟨l[k/6],List.getElem?_eq_getElem _⟩
   obtain⟨_,b',o',_,e1',_,_,_,_,g0,g1,g2,g3,g4,g5⟩:=hall (k/6) x hx
   rw[e1]at e1'
   simp only[Option.some.injEq,Addr.mk.injEq,and_true]at e1'
   obtain⟨rfl,rfl⟩:=e1'
   obtain⟨f0,f1,f2,f3,f4,f5⟩:=chP_get l (k/6) x hx
   have hk6:k=k/6*6∨k=k/6*6+1∨k=k/6*6+2∨k=k/6*6+3∨k=k/6*6+4∨k=k/6*6+5:=by omega
   rcases hk6 with h | h | h | h | h | h <;> rw[h]at hk ⊢
   ·rw[f0]at hk;cases hk;exact g0
   ·rw[f1]at hk;cases hk;exact g1
   ·rw[f2]at hk;cases hk;exact g2
   ·rw[f3]at hk;cases hk;exact g3
   ·rw[f4]at hk;cases hk;exact g4
   ·rw[f5]at hk;cases hk;exact g5
theorem wpList_pairsT{ops:Array Oper}{rest:List Oper}{o:Oper}{a:Act}{Q:Exit→Act→World→Prop}{W:World}(hgd:o.guard=none)(s x:Operand)(hot:o.type=32)
  (ho:o.op=.call { callee:=.builtin .append,args:=#[s,x],argTypes:=#[32,32] }) (w:World) (v:Value) (D:List Pr) (hW:W=w.alloc (.cells #[] 82)) (hs:a.eval s=.slice (some ⟨w.heap.size,0,none⟩) 0 0) (T:Nat) (hT:T≤w.heap.size) (hD:PRowT w v D T)
  (hx:a.eval x=v) (hlen:D.length≤1000000)
  (h:∀v' w',OwnPr w' w.heap.size T v' D→Below w.heap.size w w'→wpList Tryz.prog ops Q rest (a.put o.dst v') w'):wpList Tryz.prog ops Q (o :: rest) a W:=by
 subst hW
 have hB0:Below w.heap.size w (w.alloc (.cells #[] 82)):=(Below.refl _ w).alloc (Nat.le_refl _) _
 have hnew:=heap_alloc_new w (.cells #[] 82)
 obtain⟨p,cap,rfl,hcap,l,hl,hval,hcase⟩:=hD.cz
 rcases hcase with h0 | ⟨b,o',rfl,hb,hcells⟩
 ·have hr:=run_none (w.alloc (.cells #[] 82)) p cap ⟨w.heap.size,0,none⟩
  have hx':a.eval x=.slice p 0 cap:=by rw[hx,h0]
  refine wpList_appR hgd s x 32 ho _ _ _ _ hs hx' (by rw[hot];exact hr) (h _ _ ?_ hB0)
  have hD0:D=[]:=List.eq_nil_of_length_eq_zero h0
  subst hD0
  exact⟨[],rfl,⟨rfl,Or.inr ⟨w.heap.size,0,#[],rfl,Nat.le_refl _,hnew,Nat.le_refl _,by decide,rfl,rfl⟩⟩,fun j x y hx=>by simp at hx⟩
 ·obtain⟨i0,hi,hz0,hz1,hz2⟩:=info_parts info82
  have hown:(w.alloc (.cells #[] 82)).ownsRow w.heap.size 82 6 (.slice (some ⟨w.heap.size,0,none⟩) 0 0) 0 []:=⟨rfl,Or.inr ⟨w.heap.size,0,#[],rfl,Nat.le_refl _,hnew,Nat.le_refl _,by decide,rfl,rfl⟩⟩
  refine wpList_append_own _ hgd s x 32 ho w.heap.size 82 i0 _ 6 80 Tryz.underlying32 hi hz0 hz1 hz2 rfl (by decide) _ 0 [] hs hown ⟨b,o',none⟩ D.length cap (chP l) hx (by rw[chP_length,hl]) (fun j u hj=>by rw[hadd];exact(hB0.cell hb).trans (hcells j u hj)) (fun u hu=>?_) (by unfold maxLen;omega) (by omega) hB0.size ?_
  ·obtain⟨k,hk⟩:=List.getElem?_of_mem hu
   obtain⟨y,hy,hm⟩:=List.mem_flatMap.1 hu
   obtain⟨j,hj⟩:=List.getElem?_of_mem hy
   obtain⟨z,hz⟩:∃z,D[j]?=some z:=⟨D[j]'(by have:=(List.getElem?_eq_some_iff.1 hj).1;omega),List.getElem?_eq_getElem _⟩
   obtain⟨_,_,hv⟩:=hval j y z hj hz
   obtain⟨o1,o2,o3,o4,o5⟩:=cells_one hv
   simp only[List.mem_cons,List.not_mem_nil,or_false]at hm
   rcases hm with rfl | rfl | rfl | rfl | rfl | rfl
   ·rfl
   ·exact o1
   ·exact o2
   ·exact o3
   ·exact o4
   ·exact o5
  ·intro v' w1 hown1 hgr _
   have hBw:Below w.heap.size w w1:=hB0.grown hgr hB0.size (fun k hk=>(hown.lt k hk).1)
   refine h _ w1 ⟨l,hl,?_,fun j x y hx hy=>?_⟩ hBw
   ·rw[List.nil_append,Nat.zero_add]at hown1
    rw[hl];exact hown1
   ·obtain⟨a1,a2,a3⟩:=hval j x y hx hy
    exact⟨a1,a2,VAt.under a3 hT hBw⟩
def ApplyT(T:Nat)(D:List Pr)(l:List (ByteArray×V×Bool))(w:World)(e:Ending)(w':World):Prop:=∃v,e=.returned v∧OwnPr w' w.heap.size T v (l.foldl layC D)∧Below w.heap.size w w'
set_option maxRecDepth 100000 in
set_option maxHeartbeats 2000000 in
theorem apply_anyT(T:Nat)(D:List Pr)(l:List (ByteArray×V×Bool))(v u:Value)(w:World)(hTw:T≤w.heap.size)(hD:PRowT w v D T)(hC:InChT w u l T)(hl:D.length+l.length≤900000)(hk:∀c∈l,c.1.size≤8000) :
  Calls Tryz.prog 48 #[v,u] w (ApplyT T D l w):=by
 have HD:=Lib.hid hD
 obtain⟨p,cap,rfl,_,_⟩:=id hD
 obtain⟨q,cap2,rfl,hcap2,hrow2⟩:=id hC
 obtain⟨n,hn⟩:∃n,D.length=n:=⟨_,rfl⟩
 obtain⟨m,hm⟩:∃m,l.length=m:=⟨_,rfl⟩
 have HN:=Lib.hid hn
 have HM:=Lib.hid hm
 have HC:=Lib.hid hC
 have HK:=Lib.hid hk
 rw[hn]at hl HD ⊢
 rw[hm]at hcap2 hl HC ⊢
 clear hn hm hrow2 hD hC hk
 go_enter Tryz.func48,Tryz.ntmps48
 go_wp2_with (first | (at_builtin;refine wpList_pairsT rfl (.tmp 10) (.tmp 11) rfl rfl w _ D rfl rfl T hTw HD.out rfl (by have:=HN.out;omega) ?_;intro v1 w1 hO1 hB1) | fail)
 have HO1:=Lib.hid hO1
 have HB1:=Lib.hid hB1
 clear hO1 hB1
 go_wp2
 go_loopw [5,6] (fun v i wr=>∃(j:Nat),j≤m∧i=.int .i64 (j:Int)∧Hid (OwnPr wr w.heap.size T v ((l.take j).foldl layC D))∧Hid (Below w.heap.size w wr)) (fun _ i _=>m-(intOf i).toNat)
 case atStart=>exact⟨0,Nat.zero_le _,rfl,HO1,HB1⟩
 case round =>
  obtain⟨j,hj,rfl,HO,HB⟩:=hrel
  by_cases hlt:j<m
  ·have hlti:(j:Int)<(m:Int):=by omega
   obtain⟨c,hc⟩:∃c,l[j]?=some c:=⟨l[j]'(by have:=HM.out;omega),List.getElem?_eq_getElem _⟩
   obtain⟨q',cap',e',_,hrow⟩:=HC.out
   simp only[Value.slice.injEq]at e'
   obtain⟨rfl,hnn,rfl⟩:=e'
   clear hnn
   obtain⟨bb,oo,c0,c1,c2,c3,c4,rfl,hbb0,d0,d1,d2,d3,d4,d5,d6,d7⟩:=hrow j c hc
   have hbb:=Nat.lt_of_lt_of_le hbb0 HB.out.size
   have HCC:=Lib.hid hc
   have hks:=HK.out c (List.mem_of_getElem? hc)
   obtain⟨E,hE⟩:∃E,(l.take j).foldl layC D=E:=⟨_,rfl⟩
   have HE:=Lib.hid hE
   rw[hE]at HO
   have HTZ:=HB.out.size
   have HT:=Nat.le_trans hTw HTZ
   have HCW:Hid (∀W,Below wr.heap.size wr W→W.cell? ⟨bb,oo+j*7,none⟩=some (.string c.1)∧W.cell? ⟨bb,oo+j*7+1,none⟩=some c0∧W.cell? ⟨bb,oo+j*7+1+1,none⟩=some c1∧W.cell? ⟨bb,oo+j*7+1+2,none⟩=some c2∧W.cell? ⟨bb,oo+j*7+1+3,none⟩=some c3∧W.cell? ⟨bb,oo+j*7+1+4,none⟩=some c4∧VAt W (fun b=>b<T) (Cz.agg (c0,c1,c2,c3,c4)) c.2.1):=Lib.hid fun W hW=>by
    have hw:=HB.out.trans (hW.mono HTZ)
    have mv:∀ {k:Nat} {y:Value},w.cell? ⟨bb,k,none⟩=some y→W.cell? ⟨bb,k,none⟩=some y:=fun {k y} h=>(hw.cell (p:=⟨bb,k,none⟩) hbb0).trans h
    exact⟨mv d0,mv d1,mv d2,mv d3,mv d4,mv d5,VAt.under d7 hTw hw⟩
   replace d6:=(HB.out.cell (p:=⟨bb,oo+j*7+6,none⟩) hbb0).trans d6
   have HYC:Hid (∀(k:Nat) (y:Pr),E[k]?=some y→∃be oe k0 k1 k2 k3 k4,(∀q c',u5=.slice q E.length c'→q=some ⟨be,oe,none⟩)∧be<wr.heap.size∧y.1.size≤9223372036854775807∧∀W,Below wr.heap.size wr W→W.cell? ⟨be,oe+k*6,none⟩=some (.string y.1)∧W.cell? ⟨be,oe+k*6+1,none⟩=some k0∧W.cell? ⟨be,oe+k*6+2,none⟩=some k1∧W.cell? ⟨be,oe+k*6+3,none⟩=some k2∧W.cell? ⟨be,oe+k*6+4,none⟩=some k3∧W.cell? ⟨be,oe+k*6+5,none⟩=some k4∧VAt W (fun b=>b<T) (Cz.agg (k0,k1,k2,k3,k4)) y.2):=Lib.hid fun k y hy=>by
    obtain⟨p2,cap3,e2,_,hrowE⟩:=HO.out.rowT
    obtain⟨be,oe,k0,k1,k2,k3,k4,e3,hbe,hyz,y0,y1,y2,y3,y4,y5,y6⟩:=hrowE k y hy
    refine⟨be,oe,k0,k1,k2,k3,k4,fun q c' e=>?_,hbe,hyz,fun W hW=>?_⟩
    ·rw[e2]at e
     simp only[Value.slice.injEq]at e
     exact e.1.symm.trans e3
    ·have mv:∀ {k:Nat} {y:Value},wr.cell? ⟨be,k,none⟩=some y→W.cell? ⟨be,k,none⟩=some y:=fun {k y} h=>(hW.cell (p:=⟨be,k,none⟩) hbe).trans h
     exact⟨mv y0,mv y1,mv y2,mv y3,mv y4,mv y5,VAt.under y6 HT hW⟩
   clear hrow hE hc d0 d1 d2 d3 d4 d5 d7
   have HFL:Hid (E.length≤900000):=Lib.hid (by
    have h1:=foldl_length (l.take j) D
    rw[HE.out,HN.out,List.length_take]at h1
    have:=HM.out
    omega)
   obtain⟨ep,ecap,he,_,_⟩:=HO.out.row
   obtain⟨ne,hne⟩:∃ne,E.length=ne:=⟨_,rfl⟩
   have HNE:=Lib.hid hne
   rw[hne]at he HFL HYC
   subst he
   have hne9:ne≤900000:=HFL.out
   have HLC:Hid ((layC E c).length≤ne+1):=Lib.hid (by rw[←hne];exact layC_length E c)
   clear hne
   go_wp2
   go_loopw [7,8,9] (fun x d i wi=>∃(k:Nat) (X:List Pr) (done:Bool),k≤ne∧i=.int .i64 (k:Int)∧d=.bool done∧Hid (X++lay1 c.1 c.2.1 (E.drop k) done=layC E c)∧Hid (OwnPr wi wr.heap.size T x X)∧Hid (Below wr.heap.size wr wi)) (fun _ _ i _=>ne-(intOf i).toNat)
   case atStart=>exact⟨0,[],c.2.2,Nat.zero_le _,rfl,rfl,Lib.hid rfl,Lib.hid (OwnPr.nil _ _ _),Lib.hid (Below.refl _ _)⟩
   case round =>
    obtain⟨k,X,done,hk,rfl,rfl,HX,HOX,HBX⟩:=hrel
    have hX:=len_of HX.out HLC.out
    by_cases hlk:k<ne
    ·have hlki:(k:Int)<(ne:Int):=by omega
     obtain⟨y,hy⟩:∃y,E[k]?=some y:=⟨E[k]'(by have:=HNE.out;omega),List.getElem?_eq_getElem _⟩
     obtain⟨be,oe,k0,k1,k2,k3,k4,e2,hbe0,hyz,HYW⟩:=HYC.out k y hy
     obtain rfl:=e2 _ _ rfl
     clear e2
     have HYW':=Lib.hid HYW
     obtain⟨y0,y1,y2,y3,y4,y5,y6⟩:=HYW wr HBX.out
     have hbe:=Nat.lt_of_lt_of_le hbe0 HBX.out.size
     have x0:=(HCW.out wr HBX.out).1
     have HY:=Lib.hid hy
     clear hy HYW
     cases done with
     |true =>
      by_cases hyc:y.1=c.1
      ·have hq:(y.1.toList == c.1.toList)=true:=by rw[hyc];exact beq_self_eq_true _
       have hL:Hid (X++lay1 c.1 c.2.1 (E.drop (k+1)) true=layC E c):=Lib.hid (by
        have h:=HX.out
        rw[drop_at HY.out]at h
        unfold lay1 at h
        rw[if_pos hyc]at h
        exact h)
       go_wp2
       go_quiet (fail)
       go_wp2
       go_quiet (fail)
       go_wp2
       go_roundw
       case rel=>exact⟨k+1,X,true,by omega,by go_num,rfl,hL,Lib.hid (HOX.out.drew (Nat.le_trans hTw HB.out.size) HBX.out.size _),Lib.hid (below_dr HBX.out _)⟩
       case measure=>simp[intOf];omega
      ·have hq:(y.1.toList == c.1.toList)=false:=strs_ff hyc
       go_wp2
       go_quiet (fail)
       go_wp2
       go_quiet (fail)
       have hL:Hid ((X++[y])++lay1 c.1 c.2.1 (E.drop (k+1)) true=layC E c):=Lib.hid (by
        have h:=HX.out
        rw[drop_at HY.out]at h
        unfold lay1 at h
        rw[if_neg hyc]at h
        rw[List.append_assoc]
        exact h)
       go_wp2_with (first | (at_builtin;refine wpList_pair rfl (.tmp 70) (.tmp 75) rfl _ _ _ HT _ X (k0,k1,k2,k3,k4) y rfl rfl (HOX.out.drew HT HBX.out.size _) hyz (VAt.under y6 (Nat.le_refl _) (below_dr (Below.refl _ _) _)) rfl (by omega) HBX.out.size ?_;intro v5 w5 hO5 hB5) | fail)
       have HO5:=Lib.hid hO5
       have HB5:=Lib.hid ((below_dr HBX.out _).trans hB5)
       clear hO5 hB5
       go_wp2
       go_roundw
       case rel=>exact⟨k+1,X++[y],true,by omega,by go_num,rfl,hL,HO5,HB5⟩
       case measure=>simp[intOf];omega
     |false =>
      have HTZ:=HB.out.size
      have HT:=Nat.le_trans hTw HTZ
      cases hbl:Op.bytesLess c.1.toList y.1.toList with
      |false =>
       cases hbe':(c.1.toList == y.1.toList)with
       |false =>
        have hle:leB c.1 y.1=false:=by unfold leB;rw[hbl,hbe'];rfl
        have hyc:¬y.1=c.1:=fun e=>by rw[e]at hbe';simp at hbe'
        have hq:(y.1.toList == c.1.toList)=false:=strs_ff hyc
        have hL:Hid ((X++[y])++lay1 c.1 c.2.1 (E.drop (k+1)) false=layC E c):=Lib.hid (by
         have h:=HX.out
         rw[drop_at HY.out]at h
         unfold lay1 at h
         rw[if_neg hyc,hle]at h
         rw[List.append_assoc]
         exact h)
        clear hle
        go_wp2
        go_quiet (fail)
        go_wp2
        go_quiet (fail)
        go_wp2_with (first | (at_builtin;refine wpList_pair rfl (.tmp 70) (.tmp 75) rfl _ _ _ HT _ X (k0,k1,k2,k3,k4) y rfl rfl (HOX.out.drew HT HBX.out.size _) hyz (VAt.under y6 (Nat.le_refl _) (below_dr (Below.refl _ _) _)) rfl (by omega) HBX.out.size ?_;intro v5 w5 hO5 hB5) | fail)
        have HO5:=Lib.hid hO5
        have HB5:=Lib.hid ((below_dr HBX.out _).trans hB5)
        clear hO5 hB5
        go_wp2
        go_roundw
        case rel=>exact⟨k+1,X++[y],false,by omega,by go_num,rfl,hL,HO5,HB5⟩
        case measure=>simp[intOf];omega
       |true =>
        have hyc:y.1=c.1:=by
         have:=eq_of_beq hbe'
         rw[ByteArray.toList_eq,ByteArray.toList_eq]at this
         exact(eq_of_lists this).symm
        have hle:leB c.1 y.1=true:=by unfold leB;rw[hbl,hbe'];rfl
        have hL:Hid ((X++[(c.1,c.2.1)])++lay1 c.1 c.2.1 (E.drop (k+1)) true=layC E c):=Lib.hid (by
         have h:=HX.out
         rw[drop_at HY.out]at h
         unfold lay1 at h
         rw[if_pos hyc,hle]at h
         rw[List.append_assoc]
         exact h)
        have hq:(y.1.toList == c.1.toList)=true:=by rw[hyc];exact beq_self_eq_true _
        go_wp2
        go_quiet (fail)
        go_wp2
        refine wp_region_fine_drop 13 (TL [eqv u7,eqv (.slice (some ⟨bb,oo,none⟩) m cap2),eqv (.int .i64 (j:Int)),eqv (.pointer (some ⟨bb,oo+j*7,none⟩)),eqv (.pointer (some ⟨bb,oo+j*7,none⟩)),eqv (.string c.1),eqv (.slice (some ⟨bb,oo,none⟩) m cap2),eqv (.int .i64 (j:Int)),eqv (.pointer (some ⟨bb,oo+j*7,none⟩)),eqv (.pointer (some ⟨bb,oo+j*7+1,none⟩)),eqv (.agg #[c0,c1,c2,c3,c4]),eqv (.agg #[.string c.1,c0,c1,c2,c3,c4]),Sl6 c.1 (c0,c1,c2,c3,c4)]) (by kernel_rfl) (by kernel_rfl) (by kernel_rfl) (by kernel_rfl) (TL_last (List.forall_mem_cons.2 ⟨eqv_last _,List.forall_mem_cons.2 ⟨eqv_last _,List.forall_mem_cons.2 ⟨eqv_last _,List.forall_mem_cons.2 ⟨eqv_last _,List.forall_mem_cons.2 ⟨eqv_last _,List.forall_mem_cons.2 ⟨eqv_last _,List.forall_mem_cons.2 ⟨eqv_last _,List.forall_mem_cons.2 ⟨eqv_last _,List.forall_mem_cons.2 ⟨eqv_last _,List.forall_mem_cons.2 ⟨eqv_last _,List.forall_mem_cons.2 ⟨eqv_last _,List.forall_mem_cons.2 ⟨eqv_last _,List.forall_mem_cons.2 ⟨Sl6_last _ _,fun _ h=>(List.not_mem_nil h).elim⟩⟩⟩⟩⟩⟩⟩⟩⟩⟩⟩⟩⟩)) (TL_no_guard (by kernel_rfl)) ?_ ?_
        ·intro ix o' ho a W' hB hdep hfix
         simp only[List.take_succ_cons,List.take_zero]at ho hdep hfix
         obtain⟨x0,x1,x2,x3,x4,x5,x6⟩:=HCW.out W' ((below_dr HBX.out nq).trans (hB.mono HBX.out.size))
         match ix,ho with
         |0,ho =>
          obtain rfl:=Option.some.inj ho
          exact lays_eq _ rfl (exec_move (hfix 7 (by decide +kernel)))
         |1,ho =>
          obtain rfl:=Option.some.inj ho
          exact lays_eq _ rfl (exec_move (hfix 1 (by decide +kernel)))
         |2,ho =>
          obtain rfl:=Option.some.inj ho
          exact lays_eq _ rfl (exec_move (hfix 6 (by decide +kernel)))
         |3,ho =>
          obtain rfl:=Option.some.inj ho
          have e1:a.tmps.getD 46 undef=.slice (some ⟨bb,oo,none⟩) m cap2:=hdep 1 _ 46 rfl rfl (by decide +kernel)
          have e2:a.tmps.getD 47 undef=.int .i64 (j:Int):=hdep 2 _ 47 rfl rfl (by decide +kernel)
          exact lays_eq _ rfl (exec_ix38 e1 e2 hlt)
         |4,ho =>
          obtain rfl:=Option.some.inj ho
          have e1:a.tmps.getD 48 undef=.pointer (some ⟨bb,oo+j*7,none⟩):=hdep 3 _ 48 rfl rfl (by decide +kernel)
          exact lays_eq _ rfl (exec_fdT e1 (fa61 bb (oo+j*7) W').1)
         |5,ho =>
          obtain rfl:=Option.some.inj ho
          have e1:a.tmps.getD 49 undef=.pointer (some ⟨bb,oo+j*7,none⟩):=hdep 4 _ 49 rfl rfl (by decide +kernel)
          exact lays_eq _ rfl (exec_ldT e1 (ld9o x0))
         |6,ho =>
          obtain rfl:=Option.some.inj ho
          exact lays_eq _ rfl (exec_move (hfix 1 (by decide +kernel)))
         |7,ho =>
          obtain rfl:=Option.some.inj ho
          exact lays_eq _ rfl (exec_move (hfix 6 (by decide +kernel)))
         |8,ho =>
          obtain rfl:=Option.some.inj ho
          have e1:a.tmps.getD 51 undef=.slice (some ⟨bb,oo,none⟩) m cap2:=hdep 6 _ 51 rfl rfl (by decide +kernel)
          have e2:a.tmps.getD 52 undef=.int .i64 (j:Int):=hdep 7 _ 52 rfl rfl (by decide +kernel)
          exact lays_eq _ rfl (exec_ix38 e1 e2 hlt)
         |9,ho =>
          obtain rfl:=Option.some.inj ho
          have e1:a.tmps.getD 53 undef=.pointer (some ⟨bb,oo+j*7,none⟩):=hdep 8 _ 53 rfl rfl (by decide +kernel)
          exact lays_eq _ rfl (exec_fdT e1 (fa61 bb (oo+j*7) W').2.1)
         |10,ho =>
          obtain rfl:=Option.some.inj ho
          have e1:a.tmps.getD 54 undef=.pointer (some ⟨bb,oo+j*7+1,none⟩):=hdep 9 _ 54 rfl rfl (by decide +kernel)
          exact lays_eq _ rfl (exec_ldT e1 (ld59o x1 x2 x3 x4 x5))
         |11,ho =>
          obtain rfl:=Option.some.inj ho
          have e1:a.tmps.getD 50 undef=.string c.1:=hdep 5 _ 50 rfl rfl (by decide +kernel)
          have e2:a.tmps.getD 55 undef=.agg #[c0,c1,c2,c3,c4]:=hdep 10 _ 55 rfl rfl (by decide +kernel)
          exact lays_eq _ rfl (exec_bd82 e1 e2)
         |12,ho =>
          obtain rfl:=Option.some.inj ho
          have e1:a.tmps.getD 56 undef=.agg #[.string c.1,c0,c1,c2,c3,c4]:=hdep 11 _ 56 rfl rfl (by decide +kernel)
          have hBa:Below W'.heap.size W' (W'.alloc (.cells #[.string c.1,c0,c1,c2,c3,c4] 82)):=(Below.refl _ W').alloc (Nat.le_refl _) _
          exact lays_value (v:=.slice (some ⟨W'.heap.size,0,none⟩) 1 1) (W':=W'.alloc (.cells #[.string c.1,c0,c1,c2,c3,c4] 82)) (exec_bs32 e1) hBa ⟨_,rfl,heap_alloc_new W' _⟩
         |ix+13,ho=>simp at ho
        ·intro a W' hB hd hsz hfix hTT
         simp only[List.take_succ_cons,List.take_zero,List.drop_succ_cons,List.drop_zero]at hfix hTT ⊢
         have f0:a.tmps.getD 0 undef=.slice p n cap:=hfix 0 (by decide +kernel)
         have f1:a.tmps.getD 1 undef=.slice (some ⟨bb,oo,none⟩) m cap2:=hfix 1 (by decide +kernel)
         have f2:a.tmps.getD 2 undef=undef:=hfix 2 (by decide +kernel)
         have f3:a.tmps.getD 3 undef=undef:=hfix 3 (by decide +kernel)
         have f4:a.tmps.getD 4 undef=.slice none 0 0:=hfix 4 (by decide +kernel)
         have f5:a.tmps.getD 5 undef=.slice (some ⟨be,oe,none⟩) ne ecap:=hfix 5 (by decide +kernel)
         have f6:a.tmps.getD 6 undef=.int .i64 (j:Int):=hfix 6 (by decide +kernel)
         have f8:a.tmps.getD 8 undef=.bool false:=hfix 8 (by decide +kernel)
         have f9:a.tmps.getD 9 undef=.int .i64 (k:Int):=hfix 9 (by decide +kernel)
         have f10:a.tmps.getD 10 undef=.slice (some ⟨w.heap.size,0,none⟩) 0 0:=hfix 10 (by decide +kernel)
         have f11:a.tmps.getD 11 undef=.slice p n cap:=hfix 11 (by decide +kernel)
         have f12:a.tmps.getD 12 undef=v1:=hfix 12 (by decide +kernel)
         have f13:a.tmps.getD 13 undef=.int .i64 (j:Int):=hfix 13 (by decide +kernel)
         have f14:a.tmps.getD 14 undef=.slice (some ⟨bb,oo,none⟩) m cap2:=hfix 14 (by decide +kernel)
         have f15:a.tmps.getD 15 undef=.int .i64 (m:Int):=hfix 15 (by decide +kernel)
         have f16:a.tmps.getD 16 undef=.bool true:=hfix 16 (by decide +kernel)
         have f17:a.tmps.getD 17 undef=u17:=hfix 17 (by decide +kernel)
         have f18:a.tmps.getD 18 undef=u18:=hfix 18 (by decide +kernel)
         have f19:a.tmps.getD 19 undef=.slice (some ⟨bb,oo,none⟩) m cap2:=hfix 19 (by decide +kernel)
         have f20:a.tmps.getD 20 undef=.int .i64 (j:Int):=hfix 20 (by decide +kernel)
         have f21:a.tmps.getD 21 undef=.pointer (some ⟨bb,oo+j*7,none⟩):=hfix 21 (by decide +kernel)
         have f22:a.tmps.getD 22 undef=.pointer (some ⟨bb,oo+j*7+6,none⟩):=hfix 22 (by decide +kernel)
         have f23:a.tmps.getD 23 undef=.bool c.2.2:=hfix 23 (by decide +kernel)
         have f77:a.tmps.getD 77 undef=u77:=hfix 77 (by decide +kernel)
         have f78:a.tmps.getD 78 undef=u78:=hfix 78 (by decide +kernel)
         have f79:a.tmps.getD 79 undef=u79:=hfix 79 (by decide +kernel)
         have f80:a.tmps.getD 80 undef=u80:=hfix 80 (by decide +kernel)
         have f81:a.tmps.getD 81 undef=u81:=hfix 81 (by decide +kernel)
         have f82:a.tmps.getD 82 undef=u82:=hfix 82 (by decide +kernel)
         have f83:a.tmps.getD 83 undef=u83:=hfix 83 (by decide +kernel)
         have f84:a.tmps.getD 84 undef=u84:=hfix 84 (by decide +kernel)
         have f85:a.tmps.getD 85 undef=u85:=hfix 85 (by decide +kernel)
         have f86:a.tmps.getD 86 undef=u86:=hfix 86 (by decide +kernel)
         have f87:a.tmps.getD 87 undef=u87:=hfix 87 (by decide +kernel)
         have f88:a.tmps.getD 88 undef=u88:=hfix 88 (by decide +kernel)
         have f89:a.tmps.getD 89 undef=u89:=hfix 89 (by decide +kernel)
         have f90:a.tmps.getD 90 undef=u90:=hfix 90 (by decide +kernel)
         have f91:a.tmps.getD 91 undef=u91:=hfix 91 (by decide +kernel)
         have f92:a.tmps.getD 92 undef=u92:=hfix 92 (by decide +kernel)
         have f93:a.tmps.getD 93 undef=u93:=hfix 93 (by decide +kernel)
         have f94:a.tmps.getD 94 undef=undef:=hfix 94 (by decide +kernel)
         have fr:a.tmps.getD 45 undef=u7:=hTT 0 _ 45 rfl rfl
         have gs:Sl6 c.1 (c0,c1,c2,c3,c4) (a.tmps.getD 57 undef) W':=hTT 12 _ 57 rfl rfl
         rw[frame_lit a 95 hsz hd]
         clear hfix hTT hsz hd
         simp only[List.range,List.range.loop,List.map]
         generalize a.tmps=t at *
         simp only[f0,f1,f2,f3,f4,f5,f6,f8,f9,f10,f11,f12,f13,f14,f15,f16,f17,f18,f19,f20,f21,f22,f23,f77,f78,f79,f80,f81,f82,f83,f84,f85,f86,f87,f88,f89,f90,f91,f92,f93,f94,fr]
         clear f0 f1 f2 f3 f4 f5 f6 f8 f9 f10 f11 f12 f13 f14 f15 f16 f17 f18 f19 f20 f21 f22 f23 f77 f78 f79 f80 f81 f82 f83 f84 f85 f86 f87 f88 f89 f90 f91 f92 f93 f94 fr
         obtain⟨b9,e9,k9⟩:=gs
         simp only[e9]
         have hBW:=(below_dr HBX.out nq).trans (hB.mono HBX.out.size)
         have HV9:=Lib.hid (HCW.out W' hBW).2.2.2.2.2.2
         have HO9:=Lib.hid ((HOX.out.drew HT HBX.out.size nq).below HT HBX.out.size hB)
         have hz9:=Nat.le_trans HBX.out.size hB.size
         have HBW:=Lib.hid hBW
         clear hB hBW e9
         go_wp2_with (refine wpList_pairAt rfl (.tmp 45) (.tmp 57) rfl _ _ HT _ X (c0,c1,c2,c3,c4) (c.1,c.2.1) b9 k9 rfl HO9.out (by show c.1.size≤_;omega) HV9.out rfl (by omega) hz9 ?_;intro v6 w6 hO6 hB6)
         have HO6:=Lib.hid hO6
         have HB6:=Lib.hid (HBW.out.trans hB6)
         clear hO6 hB6 HBW HO9 HV9 k9 hz9
         obtain⟨y0,y1,y2,y3,y4,y5,y6⟩:=HYW'.out w6 HB6.out
         have x0:=(HCW.out w6 HB6.out).1
         have hbe6:=Nat.lt_of_lt_of_le hbe0 HB6.out.size
         go_wp2
         go_quiet (fail)
         go_wp2
         go_roundw
         case rel=>exact⟨k+1,X++[(c.1,c.2.1)],true,by omega,by go_num,rfl,hL,Lib.hid (HO6.out.drew HT HB6.out.size _),Lib.hid (below_dr HB6.out _)⟩
         case measure=>simp[intOf];omega
      |true =>
       have hyc:¬y.1=c.1:=fun e=>by rw[e]at hbl;rw[bytesLess_eq]at hbl;exact absurd (of_decide_eq_true hbl) (List.lt_irrefl _)
       have hle:leB c.1 y.1=true:=by unfold leB;rw[hbl];rfl
       have hq:(y.1.toList == c.1.toList)=false:=strs_ff hyc
       have hL:Hid ((X++[(c.1,c.2.1)]++[y])++lay1 c.1 c.2.1 (E.drop (k+1)) true=layC E c):=Lib.hid (by
        have h:=HX.out
        rw[drop_at HY.out]at h
        unfold lay1 at h
        rw[if_neg hyc,hle]at h
        rw[List.append_assoc,List.append_assoc]
        exact h)
       have hX2:=len_of hL.out HLC.out
       rw[List.length_append,List.length_append]at hX2
       simp only[List.length_cons,List.length_nil]at hX2
       have hX3:(X++[(c.1,c.2.1)]).length+1≤1000000:=by rw[List.length_append];simp only[List.length_cons,List.length_nil];omega
       go_wp2
       go_quiet (fail)
       go_wp2
       refine wp_region_fine_drop 13 (TL [eqv u7,eqv (.slice (some ⟨bb,oo,none⟩) m cap2),eqv (.int .i64 (j:Int)),eqv (.pointer (some ⟨bb,oo+j*7,none⟩)),eqv (.pointer (some ⟨bb,oo+j*7,none⟩)),eqv (.string c.1),eqv (.slice (some ⟨bb,oo,none⟩) m cap2),eqv (.int .i64 (j:Int)),eqv (.pointer (some ⟨bb,oo+j*7,none⟩)),eqv (.pointer (some ⟨bb,oo+j*7+1,none⟩)),eqv (.agg #[c0,c1,c2,c3,c4]),eqv (.agg #[.string c.1,c0,c1,c2,c3,c4]),Sl6 c.1 (c0,c1,c2,c3,c4)]) (by kernel_rfl) (by kernel_rfl) (by kernel_rfl) (by kernel_rfl) (TL_last (List.forall_mem_cons.2 ⟨eqv_last _,List.forall_mem_cons.2 ⟨eqv_last _,List.forall_mem_cons.2 ⟨eqv_last _,List.forall_mem_cons.2 ⟨eqv_last _,List.forall_mem_cons.2 ⟨eqv_last _,List.forall_mem_cons.2 ⟨eqv_last _,List.forall_mem_cons.2 ⟨eqv_last _,List.forall_mem_cons.2 ⟨eqv_last _,List.forall_mem_cons.2 ⟨eqv_last _,List.forall_mem_cons.2 ⟨eqv_last _,List.forall_mem_cons.2 ⟨eqv_last _,List.forall_mem_cons.2 ⟨eqv_last _,List.forall_mem_cons.2 ⟨Sl6_last _ _,fun _ h=>(List.not_mem_nil h).elim⟩⟩⟩⟩⟩⟩⟩⟩⟩⟩⟩⟩⟩)) (TL_no_guard (by kernel_rfl)) ?_ ?_
       ·intro ix o' ho a W' hB hdep hfix
        simp only[List.take_succ_cons,List.take_zero]at ho hdep hfix
        obtain⟨x0,x1,x2,x3,x4,x5,x6⟩:=HCW.out W' ((below_dr HBX.out nq).trans (hB.mono HBX.out.size))
        match ix,ho with
        |0,ho =>
         obtain rfl:=Option.some.inj ho
         exact lays_eq _ rfl (exec_move (hfix 7 (by decide +kernel)))
        |1,ho =>
         obtain rfl:=Option.some.inj ho
         exact lays_eq _ rfl (exec_move (hfix 1 (by decide +kernel)))
        |2,ho =>
         obtain rfl:=Option.some.inj ho
         exact lays_eq _ rfl (exec_move (hfix 6 (by decide +kernel)))
        |3,ho =>
         obtain rfl:=Option.some.inj ho
         have e1:a.tmps.getD 46 undef=.slice (some ⟨bb,oo,none⟩) m cap2:=hdep 1 _ 46 rfl rfl (by decide +kernel)
         have e2:a.tmps.getD 47 undef=.int .i64 (j:Int):=hdep 2 _ 47 rfl rfl (by decide +kernel)
         exact lays_eq _ rfl (exec_ix38 e1 e2 hlt)
        |4,ho =>
         obtain rfl:=Option.some.inj ho
         have e1:a.tmps.getD 48 undef=.pointer (some ⟨bb,oo+j*7,none⟩):=hdep 3 _ 48 rfl rfl (by decide +kernel)
         exact lays_eq _ rfl (exec_fdT e1 (fa61 bb (oo+j*7) W').1)
        |5,ho =>
         obtain rfl:=Option.some.inj ho
         have e1:a.tmps.getD 49 undef=.pointer (some ⟨bb,oo+j*7,none⟩):=hdep 4 _ 49 rfl rfl (by decide +kernel)
         exact lays_eq _ rfl (exec_ldT e1 (ld9o x0))
        |6,ho =>
         obtain rfl:=Option.some.inj ho
         exact lays_eq _ rfl (exec_move (hfix 1 (by decide +kernel)))
        |7,ho =>
         obtain rfl:=Option.some.inj ho
         exact lays_eq _ rfl (exec_move (hfix 6 (by decide +kernel)))
        |8,ho =>
         obtain rfl:=Option.some.inj ho
         have e1:a.tmps.getD 51 undef=.slice (some ⟨bb,oo,none⟩) m cap2:=hdep 6 _ 51 rfl rfl (by decide +kernel)
         have e2:a.tmps.getD 52 undef=.int .i64 (j:Int):=hdep 7 _ 52 rfl rfl (by decide +kernel)
         exact lays_eq _ rfl (exec_ix38 e1 e2 hlt)
        |9,ho =>
         obtain rfl:=Option.some.inj ho
         have e1:a.tmps.getD 53 undef=.pointer (some ⟨bb,oo+j*7,none⟩):=hdep 8 _ 53 rfl rfl (by decide +kernel)
         exact lays_eq _ rfl (exec_fdT e1 (fa61 bb (oo+j*7) W').2.1)
        |10,ho =>
         obtain rfl:=Option.some.inj ho
         have e1:a.tmps.getD 54 undef=.pointer (some ⟨bb,oo+j*7+1,none⟩):=hdep 9 _ 54 rfl rfl (by decide +kernel)
         exact lays_eq _ rfl (exec_ldT e1 (ld59o x1 x2 x3 x4 x5))
        |11,ho =>
         obtain rfl:=Option.some.inj ho
         have e1:a.tmps.getD 50 undef=.string c.1:=hdep 5 _ 50 rfl rfl (by decide +kernel)
         have e2:a.tmps.getD 55 undef=.agg #[c0,c1,c2,c3,c4]:=hdep 10 _ 55 rfl rfl (by decide +kernel)
         exact lays_eq _ rfl (exec_bd82 e1 e2)
        |12,ho =>
         obtain rfl:=Option.some.inj ho
         have e1:a.tmps.getD 56 undef=.agg #[.string c.1,c0,c1,c2,c3,c4]:=hdep 11 _ 56 rfl rfl (by decide +kernel)
         have hBa:Below W'.heap.size W' (W'.alloc (.cells #[.string c.1,c0,c1,c2,c3,c4] 82)):=(Below.refl _ W').alloc (Nat.le_refl _) _
         exact lays_value (v:=.slice (some ⟨W'.heap.size,0,none⟩) 1 1) (W':=W'.alloc (.cells #[.string c.1,c0,c1,c2,c3,c4] 82)) (exec_bs32 e1) hBa ⟨_,rfl,heap_alloc_new W' _⟩
        |ix+13,ho=>simp at ho
       ·intro a W' hB hd hsz hfix hTT
        simp only[List.take_succ_cons,List.take_zero,List.drop_succ_cons,List.drop_zero]at hfix hTT ⊢
        have f0:a.tmps.getD 0 undef=.slice p n cap:=hfix 0 (by decide +kernel)
        have f1:a.tmps.getD 1 undef=.slice (some ⟨bb,oo,none⟩) m cap2:=hfix 1 (by decide +kernel)
        have f2:a.tmps.getD 2 undef=undef:=hfix 2 (by decide +kernel)
        have f3:a.tmps.getD 3 undef=undef:=hfix 3 (by decide +kernel)
        have f4:a.tmps.getD 4 undef=.slice none 0 0:=hfix 4 (by decide +kernel)
        have f5:a.tmps.getD 5 undef=.slice (some ⟨be,oe,none⟩) ne ecap:=hfix 5 (by decide +kernel)
        have f6:a.tmps.getD 6 undef=.int .i64 (j:Int):=hfix 6 (by decide +kernel)
        have f8:a.tmps.getD 8 undef=.bool false:=hfix 8 (by decide +kernel)
        have f9:a.tmps.getD 9 undef=.int .i64 (k:Int):=hfix 9 (by decide +kernel)
        have f10:a.tmps.getD 10 undef=.slice (some ⟨w.heap.size,0,none⟩) 0 0:=hfix 10 (by decide +kernel)
        have f11:a.tmps.getD 11 undef=.slice p n cap:=hfix 11 (by decide +kernel)
        have f12:a.tmps.getD 12 undef=v1:=hfix 12 (by decide +kernel)
        have f13:a.tmps.getD 13 undef=.int .i64 (j:Int):=hfix 13 (by decide +kernel)
        have f14:a.tmps.getD 14 undef=.slice (some ⟨bb,oo,none⟩) m cap2:=hfix 14 (by decide +kernel)
        have f15:a.tmps.getD 15 undef=.int .i64 (m:Int):=hfix 15 (by decide +kernel)
        have f16:a.tmps.getD 16 undef=.bool true:=hfix 16 (by decide +kernel)
        have f17:a.tmps.getD 17 undef=u17:=hfix 17 (by decide +kernel)
        have f18:a.tmps.getD 18 undef=u18:=hfix 18 (by decide +kernel)
        have f19:a.tmps.getD 19 undef=.slice (some ⟨bb,oo,none⟩) m cap2:=hfix 19 (by decide +kernel)
        have f20:a.tmps.getD 20 undef=.int .i64 (j:Int):=hfix 20 (by decide +kernel)
        have f21:a.tmps.getD 21 undef=.pointer (some ⟨bb,oo+j*7,none⟩):=hfix 21 (by decide +kernel)
        have f22:a.tmps.getD 22 undef=.pointer (some ⟨bb,oo+j*7+6,none⟩):=hfix 22 (by decide +kernel)
        have f23:a.tmps.getD 23 undef=.bool c.2.2:=hfix 23 (by decide +kernel)
        have f77:a.tmps.getD 77 undef=u77:=hfix 77 (by decide +kernel)
        have f78:a.tmps.getD 78 undef=u78:=hfix 78 (by decide +kernel)
        have f79:a.tmps.getD 79 undef=u79:=hfix 79 (by decide +kernel)
        have f80:a.tmps.getD 80 undef=u80:=hfix 80 (by decide +kernel)
        have f81:a.tmps.getD 81 undef=u81:=hfix 81 (by decide +kernel)
        have f82:a.tmps.getD 82 undef=u82:=hfix 82 (by decide +kernel)
        have f83:a.tmps.getD 83 undef=u83:=hfix 83 (by decide +kernel)
        have f84:a.tmps.getD 84 undef=u84:=hfix 84 (by decide +kernel)
        have f85:a.tmps.getD 85 undef=u85:=hfix 85 (by decide +kernel)
        have f86:a.tmps.getD 86 undef=u86:=hfix 86 (by decide +kernel)
        have f87:a.tmps.getD 87 undef=u87:=hfix 87 (by decide +kernel)
        have f88:a.tmps.getD 88 undef=u88:=hfix 88 (by decide +kernel)
        have f89:a.tmps.getD 89 undef=u89:=hfix 89 (by decide +kernel)
        have f90:a.tmps.getD 90 undef=u90:=hfix 90 (by decide +kernel)
        have f91:a.tmps.getD 91 undef=u91:=hfix 91 (by decide +kernel)
        have f92:a.tmps.getD 92 undef=u92:=hfix 92 (by decide +kernel)
        have f93:a.tmps.getD 93 undef=u93:=hfix 93 (by decide +kernel)
        have f94:a.tmps.getD 94 undef=undef:=hfix 94 (by decide +kernel)
        have fr:a.tmps.getD 45 undef=u7:=hTT 0 _ 45 rfl rfl
        have gs:Sl6 c.1 (c0,c1,c2,c3,c4) (a.tmps.getD 57 undef) W':=hTT 12 _ 57 rfl rfl
        rw[frame_lit a 95 hsz hd]
        clear hfix hTT hsz hd
        simp only[List.range,List.range.loop,List.map]
        generalize a.tmps=t at *
        simp only[f0,f1,f2,f3,f4,f5,f6,f8,f9,f10,f11,f12,f13,f14,f15,f16,f17,f18,f19,f20,f21,f22,f23,f77,f78,f79,f80,f81,f82,f83,f84,f85,f86,f87,f88,f89,f90,f91,f92,f93,f94,fr]
        clear f0 f1 f2 f3 f4 f5 f6 f8 f9 f10 f11 f12 f13 f14 f15 f16 f17 f18 f19 f20 f21 f22 f23 f77 f78 f79 f80 f81 f82 f83 f84 f85 f86 f87 f88 f89 f90 f91 f92 f93 f94 fr
        obtain⟨b9,e9,k9⟩:=gs
        simp only[e9]
        have hBW:=(below_dr HBX.out nq).trans (hB.mono HBX.out.size)
        have HV9:=Lib.hid (HCW.out W' hBW).2.2.2.2.2.2
        have HO9:=Lib.hid ((HOX.out.drew HT HBX.out.size nq).below HT HBX.out.size hB)
        have hz9:=Nat.le_trans HBX.out.size hB.size
        have HBW:=Lib.hid hBW
        clear hB hBW e9
        go_wp2_with (refine wpList_pairAt rfl (.tmp 45) (.tmp 57) rfl _ _ HT _ X (c0,c1,c2,c3,c4) (c.1,c.2.1) b9 k9 rfl HO9.out (by show c.1.size≤_;omega) HV9.out rfl (by omega) hz9 ?_;intro v6 w6 hO6 hB6)
        have HO6:=Lib.hid hO6
        have HB6:=Lib.hid (HBW.out.trans hB6)
        clear hO6 hB6 HBW HO9 HV9 k9 hz9
        obtain⟨y0,y1,y2,y3,y4,y5,y6⟩:=HYW'.out w6 HB6.out
        have x0:=(HCW.out w6 HB6.out).1
        have hbe6:=Nat.lt_of_lt_of_le hbe0 HB6.out.size
        go_wp2
        go_quiet (fail)
        go_wp2_with (first | (at_builtin;refine wpList_pair rfl (.tmp 70) (.tmp 75) rfl _ _ _ HT _ (X++[(c.1,c.2.1)]) (k0,k1,k2,k3,k4) y rfl rfl (HO6.out.drew HT HB6.out.size _) hyz (VAt.under y6 (Nat.le_refl _) (below_dr (Below.refl _ _) _)) rfl hX3 HB6.out.size ?_;intro v5 w5 hO5 hB5) | fail)
        have HO5:=Lib.hid hO5
        have HB5:=Lib.hid ((below_dr HB6.out _).trans hB5)
        clear hO5 hB5
        go_wp2
        go_roundw
        case rel=>exact⟨k+1,X++[(c.1,c.2.1)]++[y],true,by omega,by go_num,rfl,hL,HO5,HB5⟩
        case measure=>simp[intOf];omega
    ·obtain rfl:k=ne:=by omega
     have HEND:Hid (∀X',X'=layC E c→(l.take (j+1)).foldl layC D=X'):=Lib.hid fun X' h=>by
      rw[take_get HCC.out,List.foldl_append,HE.out,h]
      rfl
     cases done with
     |true =>
      have hXE:X=layC E c:=by
       have h:=HX.out
       rw[List.drop_of_length_le (by rw[HNE.out];exact Nat.le_refl _)]at h
       simpa [lay1]using h
      go_wp2
      exact⟨⟨j+1,by omega,by go_num,Lib.hid (by rw[HEND.out X hXE];exact HOX.out.base HTZ),Lib.hid (HB.out.trans (HBX.out.mono HTZ))⟩,by simp[intOf];omega⟩
     |false =>
      have hXE:X++[(c.1,c.2.1)]=layC E c:=by
       have h:=HX.out
       rw[List.drop_of_length_le (by rw[HNE.out];exact Nat.le_refl _)]at h
       simpa [lay1]using h
      go_wp2
      refine wp_region_fine_drop 13 (TL [eqv u7,eqv (.slice (some ⟨bb,oo,none⟩) m cap2),eqv (.int .i64 (j:Int)),eqv (.pointer (some ⟨bb,oo+j*7,none⟩)),eqv (.pointer (some ⟨bb,oo+j*7,none⟩)),eqv (.string c.1),eqv (.slice (some ⟨bb,oo,none⟩) m cap2),eqv (.int .i64 (j:Int)),eqv (.pointer (some ⟨bb,oo+j*7,none⟩)),eqv (.pointer (some ⟨bb,oo+j*7+1,none⟩)),eqv (.agg #[c0,c1,c2,c3,c4]),eqv (.agg #[.string c.1,c0,c1,c2,c3,c4]),Sl6 c.1 (c0,c1,c2,c3,c4)]) (by kernel_rfl) (by kernel_rfl) (by kernel_rfl) (by kernel_rfl) (TL_last (List.forall_mem_cons.2 ⟨eqv_last _,List.forall_mem_cons.2 ⟨eqv_last _,List.forall_mem_cons.2 ⟨eqv_last _,List.forall_mem_cons.2 ⟨eqv_last _,List.forall_mem_cons.2 ⟨eqv_last _,List.forall_mem_cons.2 ⟨eqv_last _,List.forall_mem_cons.2 ⟨eqv_last _,List.forall_mem_cons.2 ⟨eqv_last _,List.forall_mem_cons.2 ⟨eqv_last _,List.forall_mem_cons.2 ⟨eqv_last _,List.forall_mem_cons.2 ⟨eqv_last _,List.forall_mem_cons.2 ⟨eqv_last _,List.forall_mem_cons.2 ⟨Sl6_last _ _,fun _ h=>(List.not_mem_nil h).elim⟩⟩⟩⟩⟩⟩⟩⟩⟩⟩⟩⟩⟩)) (TL_no_guard (by kernel_rfl)) ?_ ?_
      ·intro ix o' ho a W' hB hdep hfix
       simp only[List.take_succ_cons,List.take_zero]at ho hdep hfix
       obtain⟨x0,x1,x2,x3,x4,x5,x6⟩:=HCW.out W' (HBX.out.trans (hB.mono HBX.out.size))
       match ix,ho with
       |0,ho =>
        obtain rfl:=Option.some.inj ho
        exact lays_eq _ rfl (exec_move (hfix 7 (by decide +kernel)))
       |1,ho =>
        obtain rfl:=Option.some.inj ho
        exact lays_eq _ rfl (exec_move (hfix 1 (by decide +kernel)))
       |2,ho =>
        obtain rfl:=Option.some.inj ho
        exact lays_eq _ rfl (exec_move (hfix 6 (by decide +kernel)))
       |3,ho =>
        obtain rfl:=Option.some.inj ho
        have e1:a.tmps.getD 80 undef=.slice (some ⟨bb,oo,none⟩) m cap2:=hdep 1 _ 80 rfl rfl (by decide +kernel)
        have e2:a.tmps.getD 81 undef=.int .i64 (j:Int):=hdep 2 _ 81 rfl rfl (by decide +kernel)
        exact lays_eq _ rfl (exec_ix38 e1 e2 hlt)
       |4,ho =>
        obtain rfl:=Option.some.inj ho
        have e1:a.tmps.getD 82 undef=.pointer (some ⟨bb,oo+j*7,none⟩):=hdep 3 _ 82 rfl rfl (by decide +kernel)
        exact lays_eq _ rfl (exec_fdT e1 (fa61 bb (oo+j*7) W').1)
       |5,ho =>
        obtain rfl:=Option.some.inj ho
        have e1:a.tmps.getD 83 undef=.pointer (some ⟨bb,oo+j*7,none⟩):=hdep 4 _ 83 rfl rfl (by decide +kernel)
        exact lays_eq _ rfl (exec_ldT e1 (ld9o x0))
       |6,ho =>
        obtain rfl:=Option.some.inj ho
        exact lays_eq _ rfl (exec_move (hfix 1 (by decide +kernel)))
       |7,ho =>
        obtain rfl:=Option.some.inj ho
        exact lays_eq _ rfl (exec_move (hfix 6 (by decide +kernel)))
       |8,ho =>
        obtain rfl:=Option.some.inj ho
        have e1:a.tmps.getD 85 undef=.slice (some ⟨bb,oo,none⟩) m cap2:=hdep 6 _ 85 rfl rfl (by decide +kernel)
        have e2:a.tmps.getD 86 undef=.int .i64 (j:Int):=hdep 7 _ 86 rfl rfl (by decide +kernel)
        exact lays_eq _ rfl (exec_ix38 e1 e2 hlt)
       |9,ho =>
        obtain rfl:=Option.some.inj ho
        have e1:a.tmps.getD 87 undef=.pointer (some ⟨bb,oo+j*7,none⟩):=hdep 8 _ 87 rfl rfl (by decide +kernel)
        exact lays_eq _ rfl (exec_fdT e1 (fa61 bb (oo+j*7) W').2.1)
       |10,ho =>
        obtain rfl:=Option.some.inj ho
        have e1:a.tmps.getD 88 undef=.pointer (some ⟨bb,oo+j*7+1,none⟩):=hdep 9 _ 88 rfl rfl (by decide +kernel)
        exact lays_eq _ rfl (exec_ldT e1 (ld59o x1 x2 x3 x4 x5))
       |11,ho =>
        obtain rfl:=Option.some.inj ho
        have e1:a.tmps.getD 84 undef=.string c.1:=hdep 5 _ 84 rfl rfl (by decide +kernel)
        have e2:a.tmps.getD 89 undef=.agg #[c0,c1,c2,c3,c4]:=hdep 10 _ 89 rfl rfl (by decide +kernel)
        exact lays_eq _ rfl (exec_bd82 e1 e2)
       |12,ho =>
        obtain rfl:=Option.some.inj ho
        have e1:a.tmps.getD 90 undef=.agg #[.string c.1,c0,c1,c2,c3,c4]:=hdep 11 _ 90 rfl rfl (by decide +kernel)
        have hBa:Below W'.heap.size W' (W'.alloc (.cells #[.string c.1,c0,c1,c2,c3,c4] 82)):=(Below.refl _ W').alloc (Nat.le_refl _) _
        exact lays_value (v:=.slice (some ⟨W'.heap.size,0,none⟩) 1 1) (W':=W'.alloc (.cells #[.string c.1,c0,c1,c2,c3,c4] 82)) (exec_bs32 e1) hBa ⟨_,rfl,heap_alloc_new W' _⟩
       |ix+13,ho=>simp at ho
      ·intro a W' hB hd hsz hfix hTT
       simp only[List.take_succ_cons,List.take_zero,List.drop_succ_cons,List.drop_zero]at hfix hTT ⊢
       have f0:a.tmps.getD 0 undef=.slice p n cap:=hfix 0 (by decide +kernel)
       have f1:a.tmps.getD 1 undef=.slice (some ⟨bb,oo,none⟩) m cap2:=hfix 1 (by decide +kernel)
       have f2:a.tmps.getD 2 undef=undef:=hfix 2 (by decide +kernel)
       have f3:a.tmps.getD 3 undef=undef:=hfix 3 (by decide +kernel)
       have f4:a.tmps.getD 4 undef=.slice none 0 0:=hfix 4 (by decide +kernel)
       have f5:a.tmps.getD 5 undef=.slice ep k ecap:=hfix 5 (by decide +kernel)
       have f6:a.tmps.getD 6 undef=.int .i64 (j:Int):=hfix 6 (by decide +kernel)
       have f8:a.tmps.getD 8 undef=.bool false:=hfix 8 (by decide +kernel)
       have f9:a.tmps.getD 9 undef=.int .i64 (k:Int):=hfix 9 (by decide +kernel)
       have f10:a.tmps.getD 10 undef=.slice (some ⟨w.heap.size,0,none⟩) 0 0:=hfix 10 (by decide +kernel)
       have f11:a.tmps.getD 11 undef=.slice p n cap:=hfix 11 (by decide +kernel)
       have f12:a.tmps.getD 12 undef=v1:=hfix 12 (by decide +kernel)
       have f13:a.tmps.getD 13 undef=.int .i64 (j:Int):=hfix 13 (by decide +kernel)
       have f14:a.tmps.getD 14 undef=.slice (some ⟨bb,oo,none⟩) m cap2:=hfix 14 (by decide +kernel)
       have f15:a.tmps.getD 15 undef=.int .i64 (m:Int):=hfix 15 (by decide +kernel)
       have f16:a.tmps.getD 16 undef=.bool true:=hfix 16 (by decide +kernel)
       have f17:a.tmps.getD 17 undef=u17:=hfix 17 (by decide +kernel)
       have f18:a.tmps.getD 18 undef=u18:=hfix 18 (by decide +kernel)
       have f19:a.tmps.getD 19 undef=.slice (some ⟨bb,oo,none⟩) m cap2:=hfix 19 (by decide +kernel)
       have f20:a.tmps.getD 20 undef=.int .i64 (j:Int):=hfix 20 (by decide +kernel)
       have f21:a.tmps.getD 21 undef=.pointer (some ⟨bb,oo+j*7,none⟩):=hfix 21 (by decide +kernel)
       have f22:a.tmps.getD 22 undef=.pointer (some ⟨bb,oo+j*7+6,none⟩):=hfix 22 (by decide +kernel)
       have f23:a.tmps.getD 23 undef=.bool c.2.2:=hfix 23 (by decide +kernel)
       have f94:a.tmps.getD 94 undef=undef:=hfix 94 (by decide +kernel)
       have fr:a.tmps.getD 79 undef=u7:=hTT 0 _ 79 rfl rfl
       have gs:Sl6 c.1 (c0,c1,c2,c3,c4) (a.tmps.getD 91 undef) W':=hTT 12 _ 91 rfl rfl
       rw[frame_lit a 95 hsz hd]
       clear hfix hTT hsz hd
       simp only[List.range,List.range.loop,List.map]
       generalize a.tmps=t at *
       simp only[f0,f1,f2,f3,f4,f5,f6,f8,f9,f10,f11,f12,f13,f14,f15,f16,f17,f18,f19,f20,f21,f22,f23,f94,fr]
       clear f0 f1 f2 f3 f4 f5 f6 f8 f9 f10 f11 f12 f13 f14 f15 f16 f17 f18 f19 f20 f21 f22 f23 f94 fr
       obtain⟨b9,e9,k9⟩:=gs
       simp only[e9]
       have hBW:=HBX.out.trans (hB.mono HBX.out.size)
       have HV9:=Lib.hid (HCW.out W' hBW).2.2.2.2.2.2
       have HO9:=Lib.hid (HOX.out.below HT HBX.out.size hB)
       have hz9:=Nat.le_trans HBX.out.size hB.size
       have HBW:=Lib.hid hBW
       clear hB hBW e9
       go_wp2_with (refine wpList_pairAt rfl (.tmp 79) (.tmp 91) rfl _ _ HT _ X (c0,c1,c2,c3,c4) (c.1,c.2.1) b9 k9 rfl HO9.out (by show c.1.size≤_;omega) HV9.out rfl (by omega) hz9 ?_;intro v6 w6 hO6 hB6)
       have HO6:=Lib.hid hO6
       have HB6:=Lib.hid (HBW.out.trans hB6)
       clear hO6 hB6 HBW HO9 HV9 k9 hz9
       go_wp2
       go_roundw
       case rel=>exact⟨j+1,by omega,by go_num,Lib.hid (by rw[HEND.out _ hXE];exact HO6.out.base HTZ),Lib.hid (HB.out.trans (HB6.out.mono HTZ))⟩
       case measure=>simp[intOf];omega
  ·obtain rfl:j=m:=by omega
   have HF:Hid (OwnPr wr w.heap.size T u5 (l.foldl layC D)):=Lib.hid (by
    have h:=HO.out
    rwa [List.take_of_length_le (by rw[HM.out];exact Nat.le_refl _)]at h)
   go_wp2
   go_ret
   exact⟨_,rfl,HF.out,HB.out⟩
end Go.Proofs.YtlogjpmdfimgdaaGreatDoor

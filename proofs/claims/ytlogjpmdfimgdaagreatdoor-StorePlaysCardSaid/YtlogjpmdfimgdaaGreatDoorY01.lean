/- A journal on a disk, as what the store asks of a journal's functions: every answer. No condition but the disk's own. -/
import Derived.Test.YtlogjpmdfimgdaaGreatDoorX09
import Derived.Test.YtlogjpmdfimgdaaGreatDoorZ26
import Derived.Test.YtlogjpmdfimgdaaGreatDoorZ28
namespace Go.Proofs.YtlogjpmdfimgdaaGreatDoor
open Go Go.RowKit Go.Own Go.Own.Fr Go.Maps Go.WideMaps
structure Sj where
 J:Jf.Jn
 M:Jf.Dk
 i:Nat
def okJ(σ:Sj):Prop:=Jf.Inv σ.J σ.M∧σ.M.count=0
def jsAt(w:World)(O:Nat→Prop)(W:World)(jp:Addr)(σ:Sj):Prop :=
 ∃P l d s q jo,W=Jf.Wd w l d∧jp=⟨w.heap.size+jo,0,none⟩∧Jf.St w P l σ.i s q jo σ.J σ.M∧okJ σ∧∀b,O b↔w.heap.size≤b∧b<W.heap.size∧¬P (b-w.heap.size)
def txJ(σ:Sj):List (List Nat):=σ.J.now.texts
def apE(σ:Sj)(t:List Nat):Int:=((σ.J.append σ.M t).2.2:Nat)
def apS(σ:Sj)(t:List Nat):Sj:=⟨(σ.J.append σ.M t).1,(σ.J.append σ.M t).2.1,σ.i⟩
def anE(σ:Sj)(ts:List (List Nat)):Int:=((σ.J.anew σ.M ts).2.2:Nat)
def anS(σ:Sj)(ts:List (List Nat)):Sj:=⟨(σ.J.anew σ.M ts).1,(σ.J.anew σ.M ts).2.1,σ.i⟩
theorem wd_below{w W W':World}{l:List Obj}{d:Nat}(hW:W=Jf.Wd w l d)(hE:Ext W W')(hb:∀b,b<w.heap.size→W'.heap[b]?=W.heap[b]?):∃l' d',W'=Jf.Wd w l' d':=by
 subst hW
 have h:Below (w.heap.size+([]:List Obj).length) (Jf.Wd w ([]++l) d) W':=⟨hE.os,hE.tape,hE.output,hE.size,fun k hk=>hb k (by simpa using hk)⟩
 obtain⟨g',d',e⟩:=Jf.below_wd h
 exact⟨g',d',by simpa using e⟩
theorem st_wide{w:World}{P:Nat→Prop}{l l':List Obj}{i s q jo:Nat}{J:Jf.Jn}{M:Jf.Dk}(h:Jf.St w P l i s q jo J M)(hl:l.length≤l'.length)(hs:∀p,p<l.length→¬P p→l'[p]?=l[p]?):Jf.St w (Jf.Pn P l l') l' i s q jo J M:=by
 have h1:Jf.St w P (l'.take l.length) i s q jo J M:=h.other (by rw[List.length_take];omega) fun p hp hn=>by rw[List.getElem?_take_of_lt hp];exact hs p hp hn
 have h2:=h1.app (l'.drop l.length)
 rw[List.take_append_drop]at h2
 have e:(l'.take l.length).length=l.length:=by rw[List.length_take];omega
 exact h2.mono fun p hp=>by unfold Jf.Pn at hp ⊢;rw[e];exact hp
theorem okJ.append{σ:Sj}(h:okJ σ)(t:List Nat)(ht:∀c∈t,c<256):(apE σ t=0∨apE σ t=6)∧okJ (apS σ t):=by
 have h1:=h.1.append t ht
 by_cases hr:σ.J.now.room<(t.length:Int)
 ·have e:=h1.1 hr
  unfold apE apS okJ
  rw[e]
  exact⟨.inr rfl,h⟩
 ·obtain⟨M',e,h2,_,h3⟩:=h1.2 hr
  unfold apE apS okJ
  rw[e]
  exact⟨.inl rfl,h2,h3⟩
theorem okJ.anew{σ:Sj}(h:okJ σ)(ts:List (List Nat))(ht:∀t∈ts,∀c∈t,c<256):(anE σ ts=0∨anE σ ts=1∨anE σ ts=6)∧okJ (anS σ ts):=by
 by_cases hg:σ.J.now.gen=1099511627776
 ·have e:σ.J.anew σ.M ts=(σ.J,σ.M,1):=by
   unfold Jf.Jn.anew
   rw[if_neg (by rw[h.1.off];simp),if_pos hg]
  unfold anE anS okJ
  rw[e]
  exact⟨.inr (.inl rfl),h⟩
 ·have h1:=h.1.anew ts ht hg
  cases hc:(⟨σ.J.now.size-σ.J.now.first,σ.J.now.size,σ.J.now.gen+1,0,[]⟩:Jf.Hf).lays (Jf.someL ts)with
  |none =>
   have e:=h1.1 hc
   unfold anE anS okJ
   rw[e]
   exact⟨.inr (.inr rfl),h⟩
  |some x =>
   obtain⟨k,ls⟩:=x
   obtain⟨M',e,h2,_,h3⟩:=h1.2 k ls hc
   unfold anE anS okJ
   rw[e]
   exact⟨.inl rfl,h2,h3⟩
theorem goesJ:Goes okJ apE apS anE anS:=⟨fun _ t h ht=>h.append t ht,fun _ ts h ht=>h.anew ts ht⟩
theorem jsAt.few{w:World}{O:Nat→Prop}{W:World}{jp:Addr}{σ:Sj}(h:jsAt w O W jp σ):(txJ σ).length≤3000:=by
 obtain⟨P,l,d,s,q,jo,_,_,_,h,_⟩:=h
 have h1:=h.1.good.used
 have h2:=h.1.good.fits
 have h3:=Jf.sumS_ge σ.J.now.texts
 have h4:=h.1.small
 unfold txJ
 omega
theorem strRow_of{A:Nat→Prop}{w:World}{l:List Obj}{d n:Nat}{v:Value}{ts:List (List Nat)}(h:Jf.RowV A w l 1 n v (Jf.strs ts)):StrRow (Jf.Wd w l d) v (ts.map mkS):=by
 have hn:n=ts.length:=by have:=h.length;rw[Jf.strs_length]at this;omega
 rcases h with⟨rfl,h0,hC⟩ | ⟨i,c,X,t,_,rfl,hi,hX,hnc,hXt⟩
 ·have:ts=[]:=by
   cases ts with
   |nil=>rfl
   |cons a r=>simp[Jf.strs]at hC
  subst this
  exact⟨none,0,rfl,Nat.le_refl _,fun j s hs=>by simp at hs⟩
 ·refine⟨some ⟨w.heap.size+i,0,none⟩,c,by rw[List.length_map,←hn],by rw[List.length_map,←hn];exact hnc,fun k s hs=>⟨w.heap.size+i,0,rfl,?_,?_⟩⟩
  ·rw[Jf.Wd_size]
   have:=(List.getElem?_eq_some_iff.1 hi).1
   omega
  ·have hk:=(List.getElem?_eq_some_iff.1 hs).1
   rw[List.length_map]at hk
   have h2:(Jf.strs ts)[k]?=some (.string s):=by
    unfold Jf.strs
    rw[List.getElem?_map]at hs ⊢
    cases hc:ts[k]? with
    |none=>rw[hc]at hs;cases hs
    |some t=>rw[hc]at hs;simp at hs;subst hs;rfl
   rw[←hXt,List.getElem?_take_of_lt (by omega)]at h2
   unfold World.cell?
   rw[show (Jf.Wd w l d).heap[w.heap.size+i]?=_ from(Jf.Wd_at w l d i).trans hi]
   simpa using h2
theorem cell_obj{W:World}{b o:Nat}{v:Value}(h:W.cell? ⟨b,o,none⟩=some v):∃X T f,W.heap[b]?=some (.cells X T f)∧X[o]?=some v:=by
 unfold World.cell? at h
 cases hc:W.heap[b]? with
 |none=>simp only[hc]at h;cases h
 |some x =>
  cases x with
  |cells X T f=>simp only[hc]at h;exact⟨X,T,f,rfl,by simpa using h⟩
  |_=>simp only[hc]at h;cases h
theorem txAt_of{w:World}{l:List Obj}{d:Nat}{v:Value}{bs:List ByteArray}(h:StrRow (Jf.Wd w l d) v bs):Jf.TxAt w l v bs:=by
 obtain⟨p,cap,hv,_,h⟩:=h
 refine⟨p,cap,hv,fun hb=>?_⟩
 obtain⟨s0,hs0⟩:∃s,bs[0]?=some s:=by
  cases bs with
  |nil=>exact absurd rfl hb
  |cons a r=>exact⟨a,rfl⟩
 obtain⟨b,o,hp,hlt,hc⟩:=h 0 s0 hs0
 obtain⟨X,T,f,hX,_⟩:=cell_obj hc
 refine⟨b,o,X,T,f,hp,fun L e hL=>?_,fun k s hs=>?_⟩
 ·unfold Jf.blk
  by_cases h2:b<w.heap.size
  ·have h3:w.heap[b]?=some (.cells X T f):=by
    rw[←hX]
    simp only[Jf.Wd,Array.getElem?_append,if_pos h2]
   exact Jf.Wd_old _ _ _ _ h3
  ·obtain⟨k,rfl⟩:∃k,b=w.heap.size+k:=⟨b-w.heap.size,by omega⟩
   rw[Jf.Wd_at]at hX
   rw[Jf.Wd_at,hL k (List.getElem?_eq_some_iff.1 hX).1]
   exact hX
 ·obtain⟨b',o',hp',_,hc'⟩:=h k s hs
  obtain⟨X',T',f',hX',hk⟩:=cell_obj hc'
  rw[hp]at hp'
  obtain⟨rfl,rfl⟩:b=b'∧o=o':=by simpa using hp'
  rw[hX]at hX'
  obtain⟨rfl,rfl,rfl⟩:X=X'∧T=T'∧f=f':=by simpa using hX'
  exact hk
theorem opQ_js{w:World}{P:Nat→Prop}{l:List Obj}{d s q jo:Nat}{O:Nat→Prop}{jp:Addr}{σ:Sj}{r:Jf.Jn×Jf.Dk×Nat}{e:Ending}{w':World}(hjp:jp=⟨w.heap.size+jo,0,none⟩)(hO:∀b,O b↔w.heap.size≤b∧b<(Jf.Wd w l d).heap.size∧¬P (b-w.heap.size))
  (h:Jf.OpQ w P l σ.i s q jo r e w') (hok:okJ ⟨r.1,r.2.1,σ.i⟩):∃O',e=.returned (.int .i64 ((r.2.2:Nat):Int))∧jsAt w O' w' jp ⟨r.1,r.2.1,σ.i⟩∧Chg O (Jf.Wd w l d) w'∧∀b,O' b→O b∨(Jf.Wd w l d).heap.size≤b:=by
 obtain⟨l',d',rfl,rfl,hst,hup⟩:=h
 refine⟨fun b=>w.heap.size≤b∧b<(Jf.Wd w l' d').heap.size∧¬P (b-w.heap.size),rfl,⟨P,l',d',s,q,jo,rfl,hjp,hst,hok,fun b=>Iff.rfl⟩,⟨⟨rfl,rfl,rfl,?_⟩,fun b hb hn=>?_⟩,fun b hb=>?_⟩
 ·rw[Jf.Wd_size,Jf.Wd_size]
  have:=hup.1
  omega
 ·by_cases h2:b<w.heap.size
  ·simp only[Jf.Wd,Array.getElem?_append,if_pos h2]
  ·obtain⟨k,rfl⟩:∃k,b=w.heap.size+k:=⟨b-w.heap.size,by omega⟩
   rw[Jf.Wd_at,Jf.Wd_at]
   refine hup.2 k (Classical.byContradiction fun hp=>hn ((hO _).2 ⟨by omega,hb,?_⟩))
   rw[Nat.add_sub_cancel_left]
   exact hp
 ·by_cases h2:b<(Jf.Wd w l d).heap.size
  ·exact .inl ((hO b).2 ⟨hb.1,h2,hb.2.2⟩)
  ·exact .inr (by omega)
theorem jourJ(w:World)(hR:Jf.Sm.Roots w):Jour w.heap.size (jsAt w) okJ txJ apE apS anE anS where
 lt:=by
  rintro O W jp σ ⟨P,l,d,s,q,jo,rfl,rfl,hst,hok,hO⟩ b hb
  exact⟨((hO b).1 hb).1,((hO b).1 hb).2.1⟩
 keep:=by
  rintro O W W' jp σ ⟨P,l,d,s,q,jo,hW,rfl,hst,hok,hO⟩ hE hk hb
  obtain⟨l',d',rfl⟩:=wd_below hW hE hb
  subst hW
  have hz:=hE.size
  rw[Jf.Wd_size,Jf.Wd_size]at hz
  refine⟨Jf.Pn P l l',l',d',s,q,jo,rfl,rfl,st_wide hst (by omega) (fun p hp hn=>?_),hok,fun b=>?_⟩
  ·have h1:=hk (w.heap.size+p) ((hO _).2 ⟨by omega,by rw[Jf.Wd_size];omega,by rw[Nat.add_sub_cancel_left];exact hn⟩)
   rw[Jf.Wd_at,Jf.Wd_at]at h1
   exact h1
  ·rw[hO b,Jf.Wd_size,Jf.Wd_size]
   unfold Jf.Pn
   constructor
   ·rintro⟨h1,h2,h3⟩
    exact⟨h1,by omega,fun h=>h.elim h3 fun h=>by omega⟩
   ·rintro⟨h1,h2,h3⟩
    refine⟨h1,Classical.byContradiction fun hn=>h3 (.inr ⟨by omega,by omega⟩),fun h=>h3 (.inl h)⟩
 bytes:=by
  rintro O W jp σ ⟨P,l,d,s,q,jo,rfl,rfl,hst,hok,hO⟩ t ht c hc
  exact(hok.1.good.texts t ht).2 c hc
 few:=fun O W jp σ h=>h.few
 texts:=by
  rintro O W jp σ ⟨P,l,d,s,q,jo,rfl,rfl,hst,hok,hO⟩ _
  refine(Jf.texts_st hst (fun t ht=>⟨by have:=(hok.1.good.texts t ht).1;omega,(hok.1.good.texts t ht).2⟩) d).mono ?_
  rintro e w' ⟨v,g',d',rfl,rfl,hrow⟩
  exact⟨v,rfl,strRow_of hrow,Jf.below_of _ _ _ _ _⟩
 append:=by
  rintro O W jp σ t ⟨P,l,d,s,q,jo,rfl,hjp,hst,hok,hO⟩ _ ht
  subst hjp
  have hcnt:=hok.2
  refine(Jf.append_st hR hst (mkS t) (by omega) d).mono ?_
  intro e w' hq
  rw[show Jf.bys (mkS t)=t from bys_mkS t ht]at hq
  exact opQ_js rfl hO hq (hok.append t ht).2
 anew:=by
  rintro O W jp σ v ts ⟨P,l,d,s,q,jo,rfl,hjp,hst,hok,hO⟩ _ ht hlen hrow
  subst hjp
  have hcnt:=hok.2
  have hfs:σ.J.now.first≤σ.J.now.size:=by
   rcases hok.1.first with h | h <;> omega
  refine(Jf.anew_st hR hst hfs v (ts.map mkS) (txAt_of hrow) (by rw[List.length_map];exact hlen) (by omega) d).mono ?_
  intro e w' hq
  rw[show (ts.map mkS).map Jf.bys=ts from by
   rw[List.map_map]
   exact(List.map_congr_left fun t h=>bys_mkS t (ht t h)).trans (List.map_id ts)]at hq
  exact opQ_js rfl hO hq (hok.anew ts ht).2
end Go.Proofs.YtlogjpmdfimgdaaGreatDoor

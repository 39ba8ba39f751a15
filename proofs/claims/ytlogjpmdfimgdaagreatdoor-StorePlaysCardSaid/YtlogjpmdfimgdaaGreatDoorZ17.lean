/- What waits is settled: by contract. No condition but that the writes are sectors'. | The power fails: by contract. No condition but that fewer than 2^40 wait. | Writes and flushes are counted; Arm, Start, Crash: by contract. No condition but that fewer than 2^40 wait. | Flush, Write, Read: by contract. No condition but that fewer than 2^40 wait. | Write, New, Image: by contract. No condition but that fewer than 2^40 wait. -/
import Derived.Test.YtlogjpmdfimgdaaGreatDoorZ16
namespace Go.Proofs.YtlogjpmdfimgdaaGreatDoor.Jf
open Go.RowKit Go.Own.Jf
section
variable{P:Program}{T:TypeId}{a a':Nat}{x x':List Nat}{ty:TypeId}
theorem stW{w:World}{l:List Obj}{d i:Nat}(h1:(sizeOf T).run P (Wd w l d)=.ok 65 (Wd w l d))(h2:l[i]?=some (.cells (wv a x) ty (0,0)))(hx:x.length=64)(hx':x'.length=64) :
  stX P T 65 (some (.cells (wv a x) ty (0,0))) w l d i 0 (.agg (wv a' x'))=.ok () (Wd w (l.set i (.cells (wv a' x') ty (0,0))) d) :=
 stX_all h1 h2 (by rw[wv_size,hx']) (by rw[wv_size,hx]) (wv_one _ _)
end
theorem al74{w:World}{l:List Obj}{d:Nat}:alX Tryz.prog 222 (.agg (wv 0 (rep 64))) w l d=.ok (.pointer (some ⟨w.heap.size+l.length,0,none⟩)) (Wd w (l++[.cells (wv 0 (rep 64)) 222 (0,0)]) d):=alX_mix z222
theorem set_id{l:List Obj}{m:Nat}{X:Obj}(h:l[m]?=some X):l.set m X=l:=by
 obtain⟨hi,hx⟩:=List.getElem?_eq_some_iff.1 h
 rw[←hx,List.set_getElem_self]
theorem sec_eq(x:List Nat)(k:Nat):(x.drop (k*64)).take 64=sec x k:=rfl
theorem settleL_snoc(T R:List Nat)(ws:List (Nat×List Nat))(k a:Nat)(x:List Nat)(h:ws[k]?=some (a,x)):settleL T R (ws.take (k+1))=spl (settleL T R (ws.take k)) (a*64) (sec R a):=by
 have hk:=(List.getElem?_eq_some_iff.1 h)
 rw[List.take_succ_eq_append_getElem hk.1,hk.2]
 unfold settleL
 rw[List.foldl_append]
 rfl
theorem ld_row{P:Program}{w:World}{L:List Obj}{D j kk m aa:Nat}{X:List Value}{x:List Nat}{tj:TypeId}{ws:List (Nat×List Nat)}{T:TypeId}(h1:aggSize P T=some 65)(hj:L[j]?=some (.cells X.toArray tj (0,0)))
  (hX:X.take (m*65)=wcs ws) (hm:ws.length=m) (hml:m*65≤X.length) (hws:∀p∈ws,p.2.length=64) (hk:ws[kk]?=some (aa,x)) :
  ldX P T (some 65) (some (.cells X.toArray tj (0,0))) (w.heap.size+j) (kk*65) (Wd w L D)=.ok (.agg (wv aa x)) (Wd w L D):=by
 have hlt:=(List.getElem?_eq_some_iff.1 hk).1
 have hfit:kk*65+65≤m*65:=by omega
 rw[ldX_mix h1 (by rw[blk_at];exact hj) (by rw[List.size_toArray];omega)]
 congr 2
 apply Array.ext'
 have hg:=wcs_get hws hk
 rw[←hX,List.drop_take,List.take_take,Nat.min_eq_left (by omega)]at hg
 rw[Array.toList_extract,List.extract_eq_take_drop,Nat.add_sub_cancel_left]
 exact hg
attribute [local go_sem] sec_eq stD2v ldW ldW0 ldW1 stW al74 cp2X_full set_same app_left set_left at_mid' set_mid' at_mid2' set_mid2' List.getElem?_set_ne
set_option maxRecDepth 100000 in
set_option maxHeartbeats 1000000 in
theorem settle_any(w:World)(l:List Obj)(d i t r n:Nat)(vs vl vw:Value)(count:Nat)(a:Int)(k:Nat)(tt:Int)(o:Bool)(T R:List Nat)(ws:List (Nat×List Nat))(A:Nat→Prop)
  (hd:l[i]?=some (.cells (dc vs vl vw count a k tt o) 104 (0,0))) (ht:l[t]?=some (.cells (cv .u8 T) 208 (0,0))) (hr:l[r]?=some (.cells (cv .u8 R) 208 (0,0)))
  (hw:RowV A w l 65 ws.length vw (wcs ws)) (hA:∀p,A p→p≠i∧p≠t) (it:i≠t) (ir:i≠r) (tr:t≠r) (hT:T.length=n*64) (hR:R.length=n*64) (hws:∀p∈ws,p.1<n∧p.2.length=64) (h64:ws.length≤64) :
  Calls Tryz.prog 124 #[.pointer (some ⟨w.heap.size+i,0,none⟩),.slice (some ⟨w.heap.size+t,0,none⟩) n n,.slice (some ⟨w.heap.size+r,0,none⟩) n n] (Wd w l d) fun e w'=>e=.returned (.tuple #[]) ∧
   ∃l' d' vw',w'=Wd w l' d'∧l'[i]?=some (.cells (dc vs vl vw' 0 a k tt o) 104 (0,0))∧l'[t]?=some (.cells (cv .u8 (settleL (if ws.length<count then R else T) R ws)) 208 (0,0))∧RowV A w l' 65 0 vw' []∧l.length≤l'.length∧∀p,p<l.length→p≠i→p≠t→l'[p]?=l[p]?:=by
 have ti:=it.symm
 have ri:=ir.symm
 have rt:=tr.symm
 obtain⟨po,c,rfl,hpo⟩:∃po c,vw=.slice po ws.length c∧((po=none∧c=0∧ws=[])∨∃j X tj,A j∧po=some ⟨w.heap.size+j,0,none⟩∧l[j]?=some (.cells (List.toArray X) tj (0,0))∧X.length=c*65∧ws.length≤c∧X.take (ws.length*65)=wcs ws):=by
  rcases hw with⟨h1,h2,h3⟩ | ⟨j,c,X,tj,h1,h2,h3⟩
  ·have:ws=[]:=List.length_eq_zero_iff.1 h2
   subst this
   exact⟨none,0,h1,.inl ⟨rfl,rfl,rfl⟩⟩
  ·exact⟨_,c,h2,.inr ⟨j,X,tj,h1,rfl,h3⟩⟩
 obtain⟨m,hm⟩:∃m,ws.length=m:=⟨_,rfl⟩
 rw[hm]at hd hpo h64 hw ⊢
 obtain⟨T0,hT0⟩:∃T0,(if m<count then R else T)=T0:=⟨_,rfl⟩
 have hT0l:T0.length=n*64:=by rw[←hT0];split <;> assumption
 rw[hT0]
 have HM:=Lib.hid hm
 have HW:=Lib.hid hw
 have HPO:=Lib.hid hpo
 have HA:=Lib.hid hA
 have HWS:=Lib.hid hws
 clear hm hw hpo hA hws
 by_cases hc:m<count
 ·have e0:=Lib.hid (show T0=R by rw[←hT0,if_pos hc])
  have HT0:=Lib.hid hT0l
  clear hT0 hT0l
  go_enter Tryz.func124,Tryz.ntmps124
  go_wp2
  refine wp_region_read (by kernel_rfl) (by kernel_rfl) ?_
  repeat still_step
  refine wpStill_nil ?_
  go_wp2
  go_loopw [26] (fun i wr=>∃(kk:Nat) (g:List Obj) (e:Nat),kk≤m∧i=.int .i64 kk∧wr=Wd w (l.set t (.cells (cv .u8 (settleL T0 R (ws.take kk))) 208 (0,0))++g) e) (fun i _=>m-(intOf i).toNat)
  case atStart=>exact⟨0,[],_,by omega,rfl,by rw[List.take_zero,List.append_nil,e0.out];rfl⟩
  case round =>
   obtain⟨kk,g,e,hkk,rfl,rfl⟩:=hrel
   have HSL:Hid ((settleL T0 R (ws.take kk)).length=n*64):=Lib.hid (settleL_length hR _ _ HT0.out fun p hp=>(HWS.out p (List.mem_of_mem_take hp)).1)
   by_cases hlt:kk<m
   ·obtain⟨⟨aa,x⟩,hk⟩:∃p,ws[kk]?=some p:=⟨ws[kk]'(by rw[HM.out];exact hlt),List.getElem?_eq_getElem _⟩
    have hw0:=HWS.out _ (List.mem_of_getElem? hk)
    simp only at hw0
    obtain⟨haa,hx⟩:=hw0
    rcases HPO.out with⟨_,_,e0'⟩ | ⟨j,X,tj,hAj,rfl,hj,hX,hmc,hXt⟩
    ·rw[e0']at hk;simp at hk
    have hjt:=(HA.out j hAj).2
    have htj:=hjt.symm
    have hld:∀L D,L[j]?=some (Obj.cells X.toArray tj (0,0))→ldX Tryz.prog 222 (some 65) (some (Obj.cells X.toArray tj (0,0))) (w.heap.size+j) (kk*65) (Wd w L D)=.ok (.agg (wv aa x)) (Wd w L D):=fun L D hL =>
     ld_row ag222 hL hXt HM.out (by rw[hX];exact Nat.mul_le_mul_right _ hmc) (fun p hp=>(HWS.out p hp).2) hk
    have HSN:=Lib.hid (settleL_snoc T0 R ws kk aa x hk)
    have HX:=Lib.hid hX
    have HXT:=Lib.hid hXt
    have HAJ:=Lib.hid hAj
    have hai:(aa:Int)<n:=by omega
    have hfit:aa*64+64≤n*64:=by omega
    have hsl:(sec R aa).length=64:=sec_length hR haa
    have hSl:=HSL.out
    clear hX hXt hAj hk
    obtain⟨S,hS⟩:∃S,settleL T0 R (ws.take kk)=S:=⟨_,rfl⟩
    rw[hS]at HSN hSl ⊢
    clear hS HSL
    go_wp2
    refine wp_region_tail 9 (by kernel_rfl) (by kernel_rfl) ?_
    simp only[List.take_succ_cons,List.take_zero,List.drop_succ_cons,List.drop_zero]
    repeat still_step
    refine wpStill_nil ?_
    go_wp2
    go_roundw
    case rel=>exact⟨kk+1,_,_,by omega,by go_num,by rw[HSN.out]⟩
    case measure=>simp[intOf];omega
   ·obtain rfl:kk=m:=by omega
    have HE:=Lib.hid (show ws.take kk=ws by rw[List.take_of_length_le (by rw[HM.out];exact Nat.le_refl _)])
    rw[HE.out]at HSL ⊢
    obtain⟨S,hS⟩:∃S,settleL T0 R ws=S:=⟨_,rfl⟩
    rw[hS]at HSL ⊢
    have HS:=Lib.hid hS
    clear hS
    have HLN:=Lib.hid (show l.length=(l.set t (.cells (cv .u8 S) 208 (0,0))).length by rw[List.length_set])
    have HL1:=Lib.hid (show ∀p,p≠t→(l.set t (.cells (cv .u8 S) 208 (0,0)))[p]?=l[p]? from fun p hp=>List.getElem?_set_ne hp.symm)
    have hLi:=set_other (X:=.cells (cv .u8 S) 208 (0,0)) ti hd
    have HLT:=Lib.hid (set_some (X:=.cells (cv .u8 S) 208 (0,0)) ht)
    generalize l.set t (.cells (cv .u8 S) 208 (0,0))=L at *
    have HR:∀(V:Value) (X:Obj),RowV A w l 65 0 V []→RowV A w (L.set i X++g) 65 0 V []:=fun V X h=>(h.mono (l':=L.set i X) (fun p hp _=>⟨hp,by
     rw[List.getElem?_set_ne (HA.out p hp).1.symm,HL1.out p (HA.out p hp).2]⟩)).more g
    have HR2:=Lib.hid HR
    have HK:∀X p,p<l.length→p≠i→p≠t→(L.set i X++g)[p]?=l[p]?:=fun X p hp h1 h2=>by
     rw[List.getElem?_append_left (by rw[List.length_set,←HLN.out];exact hp),List.getElem?_set_ne h1.symm,HL1.out p h2]
    have HK2:=Lib.hid HK
    have HLE:=Lib.hid (show ∀X,l.length≤(L.set i X++g).length from fun X=>by rw[List.length_append,List.length_set,←HLN.out];omega)
    clear HR HK
    rcases HPO.out with⟨rfl,rfl,_⟩ | ⟨j,X,tj,hAj,rfl,hj,hX,hmc,hXt⟩
    ·clear HPO
     rename_i e0'
     clear e0'
     go_wp2
     go_end0
     exact⟨rfl,_,_,_,rfl,app_some (set_some hLi),by rw[HS.out];exact app_some (set_other it HLT.out),HR2.out _ _ (.inl ⟨rfl,rfl,rfl⟩),HLE.out _,HK2.out _⟩
    ·have HX:=Lib.hid hX
     have HXT:=Lib.hid hXt
     have HAJ:=Lib.hid hAj
     have HJ:=Lib.hid hj
     clear hX hXt hAj hj
     go_wp2
     go_end0
     exact⟨rfl,_,_,_,rfl,app_some (set_some hLi),by rw[HS.out];exact app_some (set_other it HLT.out),HR2.out _ _ (.inr ⟨j,c,X,tj,HAJ.out,rfl,HJ.out,HX.out,Nat.zero_le _,by simp⟩),HLE.out _,HK2.out _⟩
 ·have e0:=Lib.hid (show T0=T by rw[←hT0,if_neg hc])
  have HT0:=Lib.hid hT0l
  clear hT0 hT0l
  go_enter Tryz.func124,Tryz.ntmps124
  go_wp2
  refine wp_region_read (by kernel_rfl) (by kernel_rfl) ?_
  repeat still_step
  refine wpStill_nil ?_
  go_wp2
  go_loopw [26] (fun i wr=>∃(kk:Nat) (g:List Obj) (e:Nat),kk≤m∧i=.int .i64 kk∧wr=Wd w (l.set t (.cells (cv .u8 (settleL T0 R (ws.take kk))) 208 (0,0))++g) e) (fun i _=>m-(intOf i).toNat)
  case atStart=>exact⟨0,[],_,by omega,rfl,by rw[List.take_zero,List.append_nil,e0.out];show _=Wd w (l.set t (.cells (cv .u8 T) 208 (0,0))) _;rw[set_id ht]⟩
  case round =>
   obtain⟨kk,g,e,hkk,rfl,rfl⟩:=hrel
   have HSL:Hid ((settleL T0 R (ws.take kk)).length=n*64):=Lib.hid (settleL_length hR _ _ HT0.out fun p hp=>(HWS.out p (List.mem_of_mem_take hp)).1)
   by_cases hlt:kk<m
   ·obtain⟨⟨aa,x⟩,hk⟩:∃p,ws[kk]?=some p:=⟨ws[kk]'(by rw[HM.out];exact hlt),List.getElem?_eq_getElem _⟩
    have hw0:=HWS.out _ (List.mem_of_getElem? hk)
    simp only at hw0
    obtain⟨haa,hx⟩:=hw0
    rcases HPO.out with⟨_,_,e0'⟩ | ⟨j,X,tj,hAj,rfl,hj,hX,hmc,hXt⟩
    ·rw[e0']at hk;simp at hk
    have hjt:=(HA.out j hAj).2
    have htj:=hjt.symm
    have hld:∀L D,L[j]?=some (Obj.cells X.toArray tj (0,0))→ldX Tryz.prog 222 (some 65) (some (Obj.cells X.toArray tj (0,0))) (w.heap.size+j) (kk*65) (Wd w L D)=.ok (.agg (wv aa x)) (Wd w L D):=fun L D hL =>
     ld_row ag222 hL hXt HM.out (by rw[hX];exact Nat.mul_le_mul_right _ hmc) (fun p hp=>(HWS.out p hp).2) hk
    have HSN:=Lib.hid (settleL_snoc T0 R ws kk aa x hk)
    have HX:=Lib.hid hX
    have HXT:=Lib.hid hXt
    have HAJ:=Lib.hid hAj
    have hai:(aa:Int)<n:=by omega
    have hfit:aa*64+64≤n*64:=by omega
    have hsl:(sec R aa).length=64:=sec_length hR haa
    have hSl:=HSL.out
    clear hX hXt hAj hk
    obtain⟨S,hS⟩:∃S,settleL T0 R (ws.take kk)=S:=⟨_,rfl⟩
    rw[hS]at HSN hSl ⊢
    clear hS HSL
    go_wp2
    refine wp_region_tail 9 (by kernel_rfl) (by kernel_rfl) ?_
    simp only[List.take_succ_cons,List.take_zero,List.drop_succ_cons,List.drop_zero]
    repeat still_step
    refine wpStill_nil ?_
    go_wp2
    go_roundw
    case rel=>exact⟨kk+1,_,_,by omega,by go_num,by rw[HSN.out]⟩
    case measure=>simp[intOf];omega
   ·obtain rfl:kk=m:=by omega
    have HE:=Lib.hid (show ws.take kk=ws by rw[List.take_of_length_le (by rw[HM.out];exact Nat.le_refl _)])
    rw[HE.out]at HSL ⊢
    obtain⟨S,hS⟩:∃S,settleL T0 R ws=S:=⟨_,rfl⟩
    rw[hS]at HSL ⊢
    have HS:=Lib.hid hS
    clear hS
    have HLN:=Lib.hid (show l.length=(l.set t (.cells (cv .u8 S) 208 (0,0))).length by rw[List.length_set])
    have HL1:=Lib.hid (show ∀p,p≠t→(l.set t (.cells (cv .u8 S) 208 (0,0)))[p]?=l[p]? from fun p hp=>List.getElem?_set_ne hp.symm)
    have hLi:=set_other (X:=.cells (cv .u8 S) 208 (0,0)) ti hd
    have HLT:=Lib.hid (set_some (X:=.cells (cv .u8 S) 208 (0,0)) ht)
    generalize l.set t (.cells (cv .u8 S) 208 (0,0))=L at *
    have HR:∀(V:Value) (X:Obj),RowV A w l 65 0 V []→RowV A w (L.set i X++g) 65 0 V []:=fun V X h=>(h.mono (l':=L.set i X) (fun p hp _=>⟨hp,by
     rw[List.getElem?_set_ne (HA.out p hp).1.symm,HL1.out p (HA.out p hp).2]⟩)).more g
    have HR2:=Lib.hid HR
    have HK:∀X p,p<l.length→p≠i→p≠t→(L.set i X++g)[p]?=l[p]?:=fun X p hp h1 h2=>by
     rw[List.getElem?_append_left (by rw[List.length_set,←HLN.out];exact hp),List.getElem?_set_ne h1.symm,HL1.out p h2]
    have HK2:=Lib.hid HK
    have HLE:=Lib.hid (show ∀X,l.length≤(L.set i X++g).length from fun X=>by rw[List.length_append,List.length_set,←HLN.out];omega)
    clear HR HK
    rcases HPO.out with⟨rfl,rfl,_⟩ | ⟨j,X,tj,hAj,rfl,hj,hX,hmc,hXt⟩
    ·clear HPO
     rename_i e0'
     clear e0'
     go_wp2
     go_end0
     exact⟨rfl,_,_,_,rfl,app_some (set_some hLi),by rw[HS.out];exact app_some (set_other it HLT.out),HR2.out _ _ (.inl ⟨rfl,rfl,rfl⟩),HLE.out _,HK2.out _⟩
    ·have HX:=Lib.hid hX
     have HXT:=Lib.hid hXt
     have HAJ:=Lib.hid hAj
     have HJ:=Lib.hid hj
     clear hX hXt hAj hj
     go_wp2
     go_end0
     exact⟨rfl,_,_,_,rfl,app_some (set_some hLi),by rw[HS.out];exact app_some (set_other it HLT.out),HR2.out _ _ (.inr ⟨j,c,X,tj,HAJ.out,rfl,HJ.out,HX.out,Nat.zero_le _,by simp⟩),HLE.out _,HK2.out _⟩
end Go.Proofs.YtlogjpmdfimgdaaGreatDoor.Jf
namespace Go.Proofs.YtlogjpmdfimgdaaGreatDoor.Jf
open Go.RowKit Go.Own.Jf
theorem keeper_any(w:World)(l:List Obj)(d k:Nat)(t last:Int) :
  Calls Tryz.prog 152 #[.int .u64 (k:Int),.int .i64 t,.int .i64 last] (Wd w l d) fun e w'=>∃L k1 k2 k3,
   e=.returned (.func (.func 159) #[] #[.pointer (some ⟨w.heap.size+k1,0,none⟩),.pointer (some ⟨w.heap.size+k2,0,none⟩),.pointer (some ⟨w.heap.size+k3,0,none⟩)]) ∧
   w'=Wd w L d∧L[k1]?=some (.cells #[.int .u64 (k:Int)] 39 (0,0))∧L[k2]?=some (.cells #[.int .i64 last] 3 (0,0))∧L[k3]?=some (.cells #[.int .i64 t] 3 (0,0)) ∧
   (∃g,L=l++g)∧l.length≤k1∧l.length≤k2∧l.length≤k3:=by
 go_enter Tryz.func152,Tryz.ntmps152
 go_wp2
 go_ret
 exact⟨_,l.length,l.length+2,l.length+1,rfl,rfl,at_mid' rfl,by rw[List.getElem?_append_right (by omega)];simp,at_next' rfl,⟨_,rfl⟩,by omega,by omega,by omega⟩
theorem tearL_snoc(k:Nat)(t last:Int)(p:Nat×List Nat):∀(ws:List (Nat×List Nat)) (i:Nat) (x:List Nat),tearL k t last i x (ws++[p])=spl (tearL k t last i x ws) (p.1*64) (p.2.take (keptN k t last (i+ws.length)))
 | [],i,x=>rfl
 |q :: ws,i,x=>by
  show tearL k t last (i+1) _ (ws++[p])=_
  rw[tearL_snoc k t last p ws,List.length_cons,show i+1+ws.length=i+(ws.length+1) by omega]
  rfl
theorem tearL_step(k:Nat)(t last:Int)(x:List Nat)(ws:List (Nat×List Nat))(j a:Nat)(y:List Nat)(h:ws[j]?=some (a,y)):tearL k t last 0 x (ws.take (j+1))=spl (tearL k t last 0 x (ws.take j)) (a*64) (y.take (keptN k t last j)):=by
 have hk:=List.getElem?_eq_some_iff.1 h
 rw[List.take_succ_eq_append_getElem hk.1,tearL_snoc,hk.2,Nat.zero_add,List.length_take,Nat.min_eq_left (by have:=hk.1;omega)]
theorem sliceAt_hi{P:Program}{T E:TypeId}{n b o kp:Nat}{k:IntKind}{W:World}(hu:P.underlying T=some (.array n E))(h1:(sizeOf E).run P W=.ok 1 W)(hk:kp≤n) :
  (Instr.sliceAt T (.pointer (some ⟨b,o,none⟩)) none (some (.int k (kp:Int))) none).run P W=.ok (.slice (some ⟨b,o,none⟩) kp n) W:=by
 have hadd:(⟨b,o,none⟩:Addr).add 0=⟨b,o,none⟩:=by unfold Addr.add;split <;> simp_all
 simp[Instr.sliceAt,Instr.sureAddr,Instr.sliceBounds,Instr.sliceBound,run_underlying hu,asIntOf,h1,hadd]
 intro hh;omega
theorem sl71{b o kp:Nat}{k:IntKind}{W:World}(hk:kp≤64) :
  (Instr.sliceAt 208 (.pointer (some ⟨b,o,none⟩)) none (some (.int k (kp:Int))) none).run Tryz.prog W=.ok (.slice (some ⟨b,o,none⟩) kp 64) W:=sliceAt_hi Tryz.underlying208 (sz5 W) hk
attribute [local go_sem] sl71 stD2v ldW ldW0 ldW1 stW al74 cp2X_wv set_same app_left set_left at_mid' set_mid' at_mid2' set_mid2' List.getElem?_set_ne
theorem crash_off(w:World)(l:List Obj)(d i:Nat){vs vl vw:Value}{n:Nat}{a:Int}{k:Nat}{t:Int}(h:l[i]?=some (.cells (dc vs vl vw n a k t true) 104 (0,0)))(k':Nat)(t':Int) :
  Calls Tryz.prog 142 #[.pointer (some ⟨w.heap.size+i,0,none⟩),.int .u64 (k':Int),.int .i64 t'] (Wd w l d) fun e w'=>e=.returned (.tuple #[])∧w'=Wd w l d:=by
 go_enter Tryz.func142,Tryz.ntmps142
 go_wp2
 refine bodyPost_ret (results_none rfl _ _ _) rfl ?_
 exact⟨rfl,rfl⟩
set_option maxRecDepth 100000 in
set_option maxHeartbeats 1000000 in
theorem crash_on(w:World)(l:List Obj)(d i s q:Nat)(vw:Value)(O:Nat→Prop)(M:Dk)(k:Nat)(t:Int)(h:DAt w l i s q vw O M)(hoff:M.off=false)(hc:M.count≤1099511627776)(hO:∀p,O p→p<l.length) :
  Calls Tryz.prog 142 #[.pointer (some ⟨w.heap.size+i,0,none⟩),.int .u64 (k:Int),.int .i64 t] (Wd w l d) fun e w'=>e=.returned (.tuple #[])∧∃l' d' vw',w'=Wd w l' d'∧DAt w l' i s q vw' O (M.crash k t)∧Kp O l l':=by
 have hd:=h.hd
 have hs:=h.hs
 have hq:=h.hq
 have is:=h.is
 have iq:=h.iq
 have sq:=h.sq
 have si:=h.is.symm
 have qi:=h.iq.symm
 have qs:=h.sq.symm
 have H:=Lib.hid h
 have HO:=Lib.hid hO
 clear h hO
 obtain⟨n,seen,last,wait,count,cat,keep,torn,off⟩:=M
 simp only at hd hs hq hc hoff
 subst hoff
 go_enter Tryz.func142,Tryz.ntmps142
 go_wp2_with fail
 refine(keeper_any _ _ _ _ _ _).mono ?_
 rintro e w' ⟨L,k1,k2,k3,rfl,rfl,hk1,hk2,hk3,hg,hl1,hl2,hl3⟩
 obtain⟨g0,hg0⟩:=hg
 have hLd:=app_some (g:=g0) hd
 have hLs:=app_some (g:=g0) hs
 have hLq:=app_some (g:=g0) hq
 have HRW:=Lib.hid (H.out.hw.more g0)
 rw[←hg0]at hLd hLs hLq HRW
 have HG:=Lib.hid hg0
 clear hg0
 have hq1:q≠k1:=by have:=(List.getElem?_eq_some_iff.1 hq).1;omega
 have hq2:q≠k2:=by have:=(List.getElem?_eq_some_iff.1 hq).1;omega
 have hq3:q≠k3:=by have:=(List.getElem?_eq_some_iff.1 hq).1;omega
 clear hl1 hl2 hl3
 obtain⟨m,hm⟩:∃m,wait.length=m:=⟨_,rfl⟩
 simp only[hm]at HRW
 have HM:=Lib.hid hm
 have h64:m≤64:=by have:=H.out.ok.waitL;simp only at this;omega
 clear hm hd hs hq
 obtain⟨po,c,rfl,hpo⟩:∃po c,vw=.slice po m c∧((po=none∧c=0∧wait=[])∨∃j X tj,(¬O j∧j≠i∧j≠s∧j≠q)∧po=some ⟨w.heap.size+j,0,none⟩∧L[j]?=some (.cells (List.toArray X) tj (0,0))∧X.length=c*65∧m≤c∧X.take (m*65)=wcs wait):=by
  rcases HRW.out with⟨h1,h2,h3⟩ | ⟨j,c,X,tj,h1,h2,h3⟩
  ·subst h2
   have:wait=[]:=List.length_eq_zero_iff.1 HM.out
   exact⟨none,0,h1,.inl ⟨rfl,rfl,this⟩⟩
  ·exact⟨_,c,h2,.inr ⟨j,X,tj,h1,rfl,h3⟩⟩
 have HPO:=Lib.hid hpo
 clear hpo
 go_wp2
 go_loopw [26] (fun i wr=>∃(kk:Nat) (g:List Obj) (e:Nat),kk≤m∧i=.int .i64 kk∧wr=Wd w (L.set q (.cells (cv .u8 (tearL k t ((count:Int)-1) 0 last (wait.take kk))) 208 (0,0))++g) e) (fun i _=>m-(intOf i).toNat)
 case atStart=>exact⟨0,[],_,by omega,rfl,by rw[List.take_zero,List.append_nil];show _=Wd w (L.set q (.cells (cv .u8 last) 208 (0,0))) _;rw[set_id hLq]⟩
 case round =>
  obtain⟨kk,g,e,hkk,rfl,rfl⟩:=hrel
  have HSL:Hid ((tearL k t ((count:Int)-1) 0 last (wait.take kk)).length=n*64):=Lib.hid (tearL_length _ _ _ H.out.ok.lastL fun p hp=>⟨(H.out.ok.waitO p (List.mem_of_mem_take hp)).1,(H.out.ok.waitO p (List.mem_of_mem_take hp)).2.1⟩)
  by_cases hlt:kk<m
  ·obtain⟨⟨aa,x⟩,hk⟩:∃p,wait[kk]?=some p:=⟨wait[kk]'(by rw[HM.out];exact hlt),List.getElem?_eq_getElem _⟩
   have hw0:=H.out.ok.waitO _ (List.mem_of_getElem? hk)
   simp only at hw0
   obtain⟨haa,hx,_⟩:=hw0
   rcases HPO.out with⟨_,_,e0'⟩ | ⟨j,X,tj,hAj,rfl,hj,hX,hmc,hXt⟩
   ·rw[e0']at hk;simp at hk
   have hjq:=hAj.2.2.2
   have hqj:=hjq.symm
   have hld:∀L D,L[j]?=some (Obj.cells X.toArray tj (0,0))→ldX Tryz.prog 222 (some 65) (some (Obj.cells X.toArray tj (0,0))) (w.heap.size+j) (kk*65) (Wd w L D)=.ok (.agg (wv aa x)) (Wd w L D):=fun L D hL =>
    ld_row ag222 hL hXt HM.out (by rw[hX];exact Nat.mul_le_mul_right _ hmc) (fun p hp=>(H.out.ok.waitO p hp).2.1) hk
   have HSN:=Lib.hid (tearL_step k t ((count:Int)-1) last wait kk aa x hk)
   have HX:=Lib.hid hX
   have HXT:=Lib.hid hXt
   have HAJ:=Lib.hid hAj
   have hai:(aa:Int)<n:=by omega
   have hfit:aa*64+64≤n*64:=by omega
   have hSl:=HSL.out
   have hk64:kk<64:=by omega
   clear hX hXt hAj hk
   obtain⟨S,hS⟩:∃S,tearL k t ((count:Int)-1) 0 last (wait.take kk)=S:=⟨_,rfl⟩
   rw[hS]at HSN hSl ⊢
   clear hS HSL
   obtain⟨kp,hkp⟩:∃kp,keptN k t ((count:Int)-1) kk=kp:=⟨_,rfl⟩
   have hkp64:kp≤64:=by rw[←hkp];exact keptN_le _ _ _ _
   have HKP:=Lib.hid hkp
   rw[hkp]at HSN
   clear hkp
   have HC:Hid (∀(X:Obj) g e,Calls Tryz.prog 159 #[.int .i64 (kk:Int),.pointer (some ⟨w.heap.size+k1,0,none⟩),.pointer (some ⟨w.heap.size+k2,0,none⟩),.pointer (some ⟨w.heap.size+k3,0,none⟩)] (Wd w (L.set q X++g) e) fun e' w'=>e'=.returned (.int .i64 (kp:Int))∧w'=Wd w (L.set q X++g) e):=Lib.hid fun X g e =>
    (keep_any w _ e k1 k2 k3 (app_some (set_other hq1 hk1)) (app_some (set_other hq2 hk2)) (app_some (set_other hq3 hk3)) kk hk64).mono fun e' w' ⟨h1,h2⟩=>⟨by rw[h1,HKP.out],h2.symm⟩
   go_wp2
   refine wp_region_tail 13 (by kernel_rfl) (by kernel_rfl) ?_
   simp only[List.take_succ_cons,List.take_zero,List.drop_succ_cons,List.drop_zero]
   repeat still_step
   still_call (HC.out _ _ _)
   still_step
   refine wpStill_nil ?_
   go_wp2
   go_roundw
   case rel=>exact⟨kk+1,_,_,by omega,by go_num,by rw[HSN.out]⟩
   case measure=>simp[intOf];omega
  ·obtain rfl:kk=m:=by omega
   have HE:=Lib.hid (show wait.take kk=wait by rw[List.take_of_length_le (by rw[HM.out];exact Nat.le_refl _)])
   rw[HE.out]at HSL ⊢
   obtain⟨S,hS⟩:∃S,tearL k t ((count:Int)-1) 0 last wait=S:=⟨_,rfl⟩
   rw[hS]at HSL ⊢
   have HS:=Lib.hid hS
   clear hS
   have HLN:=Lib.hid (show L.length=(L.set q (.cells (cv .u8 S) 208 (0,0))).length by rw[List.length_set])
   have HL1:=Lib.hid (show ∀p,p≠q→(L.set q (.cells (cv .u8 S) 208 (0,0)))[p]?=L[p]? from fun p hp=>List.getElem?_set_ne hp.symm)
   have hLi:=app_some (g:=g) (set_other (X:=.cells (cv .u8 S) 208 (0,0)) qi hLd)
   have hLs2:=app_some (g:=g) (set_other (X:=.cells (cv .u8 S) 208 (0,0)) qs hLs)
   have hLq2:=app_some (g:=g) (set_some (X:=.cells (cv .u8 S) 208 (0,0)) hLq)
   have HRW2:=Lib.hid ((HRW.out.mono (l':=L.set q (.cells (cv .u8 S) 208 (0,0))) (B:=fun p=>¬O p∧p≠i∧p≠s∧p≠q) (fun p hp _=>⟨hp,HL1.out p hp.2.2.2⟩)).more g)
   have HKP:Hid (Kp O l (L.set q (.cells (cv .u8 S) 208 (0,0))++g)):=Lib.hid (by
    rw[HG.out]
    exact((Kp.app O l g0).trans (Kp.set H.out.Oq _)).trans (Kp.app _ _ _))
   generalize L.set q (.cells (cv .u8 S) 208 (0,0))++g=L1 at *
   clear hk1 hk2 hk3 hLs hLq hLd HRW hq1 hq2 hq3
   go_wp2
   refine wp_region_tail 9 (by kernel_rfl) (by kernel_rfl) ?_
   simp only[List.take_succ_cons,List.take_zero,List.drop_succ_cons,List.drop_zero]
   repeat still_step
   refine wpStill_nil ?_
   go_wp2_with fail
   refine(settle_any w L1 _ i s q n _ _ _ _ _ _ _ _ seen S wait (fun p=>¬O p∧p≠i∧p≠s∧p≠q) hLi hLs2 hLq2 (by rw[HM.out];exact HRW2.out) (fun p hp=>⟨hp.2.1,hp.2.2.1⟩) is iq sq H.out.ok.seenL HSL.out (fun p hp=>⟨(H.out.ok.waitO p hp).1,(H.out.ok.waitO p hp).2.1⟩) (by rw[HM.out];exact h64)).mono ?_
   rintro e' w' ⟨rfl,l',d',vw',rfl,hi',ht',hrow,hlen,hk'⟩
   have HS2:=Lib.hid ht'
   have HQ2:=Lib.hid ((hk' q (List.getElem?_eq_some_iff.1 hLq2).1 qi qs).trans hLq2)
   have HRO:=Lib.hid hrow
   have HK3:Hid (Kp O L1 l'):=Lib.hid ⟨hlen,fun p hp hlt=>hk' p hlt (fun e=>H.out.Oi (e▸hp)) (fun e=>H.out.Os (e▸hp))⟩
   clear ht' hrow hlen hk' hLi hLs2 hLq2
   go_wp2
   go_end0
   refine⟨rfl,_,_,vw',rfl,?_,(HKP.out.trans HK3.out).trans (Kp.set H.out.Oi _)⟩
   have hok:=H.out.ok.crash k t
   have HC:({ n:=n,seen:=seen,last:=last,wait:=wait,count:=count,cat:=cat,keep:=keep,torn:=torn,off:=false }:Dk).crash k t={ n:=n,seen:=settleL (if wait.length<count then S else seen) S wait,last:=S,wait:=[],count:=0,cat:=0,keep:=0,torn:=0,off:=true }:=by
    have e:({ n:=n,seen:=seen,last:=last,wait:=wait,count:=count,cat:=cat,keep:=keep,torn:=torn,off:=false }:Dk).torned k t=S:=HS.out
    unfold Dk.crash
    rw[if_neg (by simp),e]
    rfl
   rw[HC]at hok ⊢
   exact⟨set_some hi',set_other is HS2.out,set_other iq HQ2.out,HRO.out.mono fun p hp _=>⟨hp,List.getElem?_set_ne hp.2.1.symm⟩,is,iq,sq,H.out.Oi,H.out.Os,H.out.Oq,hok⟩
end Go.Proofs.YtlogjpmdfimgdaaGreatDoor.Jf
namespace Go.Proofs.YtlogjpmdfimgdaaGreatDoor.Jf
open Go.RowKit Go.Own.Jf
theorem DAt.head{w:World}{l:List Obj}{i s q:Nat}{vw:Value}{O:Nat→Prop}{M:Dk}(h:DAt w l i s q vw O M)(M':Dk)(hn:M'.n=M.n)(hs:M'.seen=M.seen)(hl:M'.last=M.last)(hw:M'.wait=M.wait)(ok:M'.Ok) :
  DAt w (l.set i (.cells (dc (.slice (some ⟨w.heap.size+s,0,none⟩) M.n M.n) (.slice (some ⟨w.heap.size+q,0,none⟩) M.n M.n) vw M'.count M'.cat M'.keep M'.torn M'.off) 104 (0,0))) i s q vw O M' :=
 ⟨by rw[hn];exact set_some h.hd,by rw[hs];exact set_other h.is h.hs,by rw[hl];exact set_other h.iq h.hq,by rw[hw];exact h.hw.mono fun p hp _=>⟨hp,List.getElem?_set_ne hp.2.1.symm⟩,h.is,h.iq,h.sq,h.Oi,h.Os,h.Oq,ok⟩
theorem crash_any(w:World)(l:List Obj)(d i s q:Nat)(vw:Value)(O:Nat→Prop)(M:Dk)(k:Nat)(t:Int)(h:DAt w l i s q vw O M)(hc:M.count≤1099511627776)(hO:∀p,O p→p<l.length) :
  Calls Tryz.prog 142 #[.pointer (some ⟨w.heap.size+i,0,none⟩),.int .u64 (k:Int),.int .i64 t] (Wd w l d) fun e w'=>e=.returned (.tuple #[])∧∃l' d' vw',w'=Wd w l' d'∧DAt w l' i s q vw' O (M.crash k t)∧Kp O l l':=by
 cases hoff:M.off with
 |false=>exact crash_on w l d i s q vw O M k t h hoff hc hO
 |true =>
  have hd:=h.hd
  rw[hoff]at hd
  refine(crash_off w l d i hd k t).mono fun _ _ ⟨h1,h2⟩=>⟨h1,l,d,vw,h2,?_,Kp.refl O l⟩
  unfold Dk.crash
  rw[if_pos hoff]
  exact h
set_option maxRecDepth 100000 in
set_option maxHeartbeats 1000000 in
theorem counted_any(w:World)(l:List Obj)(d i s q:Nat)(vw:Value)(O:Nat→Prop)(M:Dk)(h:DAt w l i s q vw O M)(hc:M.count≤1099511627776)(hO:∀p,O p→p<l.length) :
  Calls Tryz.prog 123 #[.pointer (some ⟨w.heap.size+i,0,none⟩)] (Wd w l d) fun e w'=>e=.returned (.int .i64 ((M.counted.2:Nat):Int))∧∃l' d' vw',w'=Wd w l' d'∧DAt w l' i s q vw' O M.counted.1∧Kp O l l':=by
 have hd:=h.hd
 have H:=Lib.hid h
 have HO:=Lib.hid hO
 have c0:=h.ok.cat0
 have c1:=h.ok.cat1
 clear h hO
 by_cases hz:M.cat=0
 ·have e:M.counted=(M,0):=by unfold Dk.counted;rw[if_pos hz]
  rw[hz]at hd
  have HE:=Lib.hid e
  clear e hz c0 c1
  rw[HE.out]
  go_enter Tryz.func123,Tryz.ntmps123
  go_wp2
  go_ret
  exact⟨rfl,l,d,vw,rfl,H.out,Kp.refl O l⟩
 ·have hz':(M.cat == 0)=false:=by rw[beq_eq_false_iff_ne];exact hz
  have hM:=Lib.hid (H.out.head { M with cat:=M.cat-1 } rfl rfl rfl rfl (H.out.ok.cut hz))
  have hset:=Lib.hid (set_same (l:=l) (m:=i) (X:=Obj.cells (dc (.slice (some ⟨w.heap.size+s,0,none⟩) M.n M.n) (.slice (some ⟨w.heap.size+q,0,none⟩) M.n M.n) vw M.count (M.cat-1) M.keep M.torn M.off) 104 (0,0)) (by rw[hd];rfl))
  have HKs:=Lib.hid (Kp.set (l:=l) H.out.Oi (Obj.cells (dc (.slice (some ⟨w.heap.size+s,0,none⟩) M.n M.n) (.slice (some ⟨w.heap.size+q,0,none⟩) M.n M.n) vw M.count (M.cat-1) M.keep M.torn M.off) 104 (0,0)))
  by_cases hp:0<M.cat-1
  ·have HE:=Lib.hid (show M.counted=({ M with cat:=M.cat-1 },0) by unfold Dk.counted;rw[if_neg hz,if_pos hp])
   rw[HE.out]
   obtain⟨x,hx⟩:∃x,M.cat=x:=⟨_,rfl⟩
   simp only[hx]at *
   have hs:=hset.out
   clear hz
   go_enter Tryz.func123,Tryz.ntmps123
   go_wp2
   go_ret
   exact⟨rfl,_,_,vw,rfl,hM.out,HKs.out⟩
  ·have HE:=Lib.hid (show M.counted=(({ M with cat:=M.cat-1 }:Dk).crash M.keep M.torn,7) by unfold Dk.counted;rw[if_neg hz,if_neg hp])
   rw[HE.out]
   clear hz
   have hs:=hset.out
   go_enter Tryz.func123,Tryz.ntmps123
   go_wp2
   refine wp_region_tail 11 (by kernel_rfl) (by kernel_rfl) ?_
   simp only[List.take_succ_cons,List.take_zero,List.drop_succ_cons,List.drop_zero]
   repeat still_step
   refine wpStill_nil ?_
   go_wp2_with fail
   refine(crash_any w _ _ i s q vw O _ _ _ hM.out hc (fun p hp=>by rw[List.length_set];exact HO.out p hp)).mono ?_
   rintro e' w' ⟨rfl,l',d',vw',rfl,hA,hK⟩
   have HA:=Lib.hid hA
   have HK:=Lib.hid hK
   clear hA hK
   go_wp2
   go_ret
   exact⟨rfl,_,_,vw',rfl,HA.out,HKs.out.trans HK.out⟩
end Go.Proofs.YtlogjpmdfimgdaaGreatDoor.Jf
namespace Go.Proofs.YtlogjpmdfimgdaaGreatDoor.Jf
open Go.RowKit Go.Own.Jf
theorem counted_code(M:Dk):M.counted.2=0∨M.counted.2=7:=by
 unfold Dk.counted
 split
 ·exact .inl rfl
 ·split
  ·exact .inl rfl
  ·exact .inr rfl
theorem counted_count(M:Dk):M.counted.1.count≤M.count:=by
 unfold Dk.counted
 split
 ·exact Nat.le_refl _
 ·split
  ·exact Nat.le_refl _
  ·unfold Dk.crash
   split
   ·exact Nat.le_refl _
   ·exact Nat.zero_le _
set_option maxRecDepth 100000 in
set_option maxHeartbeats 1000000 in
theorem flush_any(w:World)(l:List Obj)(d i s q:Nat)(vw:Value)(O:Nat→Prop)(M:Dk)(h:DAt w l i s q vw O M)(hc:M.count≤1099511627776)(hO:∀p,O p→p<l.length) :
  Calls Tryz.prog 86 #[.pointer (some ⟨w.heap.size+i,0,none⟩)] (Wd w l d) fun e w'=>e=.returned (.int .i64 ((M.flush.2:Nat):Int))∧∃l' d' vw',w'=Wd w l' d'∧DAt w l' i s q vw' O M.flush.1∧Kp O l l':=by
 have hd:=h.hd
 have H:=Lib.hid h
 have HO:=Lib.hid hO
 clear h hO
 cases hoff:M.off with
 |true =>
  have HE:=Lib.hid (show M.flush=(M,7) by unfold Dk.flush;rw[if_pos hoff])
  rw[HE.out]
  rw[hoff]at hd
  clear hoff
  go_enter Tryz.func86,Tryz.ntmps86
  go_wp2
  go_ret
  exact⟨rfl,l,d,vw,rfl,H.out,Kp.refl O l⟩
 |false =>
  rw[hoff]at hd
  rcases counted_code M with hz | hz
  ·have HE:=Lib.hid (show M.flush=(M.counted.1.flushed,0) by unfold Dk.flush;rw[if_neg (by rw[hoff];simp),if_pos hz])
   rw[HE.out]
   have HZ:=Lib.hid hz
   clear hoff hz
   go_enter Tryz.func86,Tryz.ntmps86
   go_wp2_with fail
   refine(counted_any w l d i s q vw O M H.out hc HO.out).mono ?_
   rintro e w' ⟨rfl,l1,d1,vw1,rfl,hA,hK⟩
   rw[HZ.out]
   clear hd
   obtain⟨N,hN⟩:∃N,M.counted.1=N:=⟨_,rfl⟩
   rw[hN]at hA
   have HN:=Lib.hid hN
   clear hN
   have hd:=hA.hd
   have hs:=hA.hs
   have hq:=hA.hq
   have HA:=Lib.hid hA
   have HK:=Lib.hid hK
   clear hA hK
   go_wp2
   refine wp_region_tail 9 (by kernel_rfl) (by kernel_rfl) ?_
   simp only[List.take_succ_cons,List.take_zero,List.drop_succ_cons,List.drop_zero]
   repeat still_step
   refine wpStill_nil ?_
   go_wp2_with fail
   refine(settle_any w l1 _ i q s N.n _ _ _ _ _ _ _ _ N.last N.seen N.wait (fun p=>¬O p∧p≠i∧p≠s∧p≠q) hd hq hs HA.out.hw (fun p hp=>⟨hp.2.1,hp.2.2.2⟩) HA.out.iq HA.out.is HA.out.sq.symm HA.out.ok.lastL HA.out.ok.seenL (fun p hp=>⟨(HA.out.ok.waitO p hp).1,(HA.out.ok.waitO p hp).2.1⟩) (by have:=HA.out.ok.waitL;omega)).mono ?_
   rintro e' w' ⟨rfl,l',d',vw',rfl,hi',ht',hrow,hlen,hk'⟩
   have HQ2:=Lib.hid ht'
   have HS2:=Lib.hid ((hk' s (List.getElem?_eq_some_iff.1 hs).1 HA.out.is.symm HA.out.sq).trans hs)
   have HRO:=Lib.hid hrow
   have HK3:Hid (Kp O l1 l'):=Lib.hid ⟨hlen,fun p hp hlt=>hk' p hlt (fun e=>HA.out.Oi (e▸hp)) (fun e=>HA.out.Oq (e▸hp))⟩
   clear ht' hrow hlen hk'
   go_wp2
   go_ret
   refine⟨rfl,_,_,vw',rfl,?_,HK.out.trans HK3.out⟩
   rw[HN.out]
   exact⟨hi',HS2.out,HQ2.out,HRO.out,HA.out.is,HA.out.iq,HA.out.sq,HA.out.Oi,HA.out.Os,HA.out.Oq,HA.out.ok.flushed⟩
  ·have HE:=Lib.hid (show M.flush=M.counted by unfold Dk.flush;rw[if_neg (by rw[hoff];simp),if_neg (by omega)])
   rw[HE.out]
   have HZ:=Lib.hid hz
   clear hoff hz
   go_enter Tryz.func86,Tryz.ntmps86
   go_wp2_with fail
   refine(counted_any w l d i s q vw O M H.out hc HO.out).mono ?_
   rintro e w' ⟨rfl,l1,d1,vw1,rfl,hA,hK⟩
   rw[HZ.out]
   have HA:=Lib.hid hA
   have HK:=Lib.hid hK
   clear hA hK hd
   go_wp2
   go_ret
   exact⟨by rw[HZ.out];rfl,_,_,vw1,rfl,HA.out,HK.out⟩
noncomputable def fields74:Array Field:=match Tryz.prog.underlying 222 with | some (.struct f)=>f | _=>#[]
theorem un74:Tryz.prog.underlying 222=some (.struct fields74):=by kernel_rfl
theorem pl74(W:World):(fields74.mapM fun f=>do pure (f.offset,←sizeOf f.type):Sem (Array (Nat×Nat))).run Tryz.prog W=.ok #[(0,1),(1,64)] W:=by kernel_rfl
theorem fill_step{place:Nat→Option (Nat×Nat)}{cells:Array Value}{i off n:Nat}{v:Value}{rest:List (Nat×Value)}(hp:place i=some (off,n))(hn:v.cells.size=n)(h:off+n≤cells.size) :
  Instr.fill place cells ((i,v) :: rest)=Instr.fill place (v.cells.zipIdx.foldl (fun cs (c,j)=>cs.setIfInBounds (off+j) c) cells) rest:=by
 conv=>lhs;unfold Instr.fill
 simp only[hp]
 rw[if_neg (by simp[hn];omega)]
theorem bu222(a:Nat)(x:List Nat)(hx:x.length=64)(W:World):(buN 222 #[(0,.int .i64 (a:Int)),(1,.agg (cv .u8 x))]).run Tryz.prog W=.ok (.agg (wv a x)) W:=by
 have h1:(wv 0 (rep 64)).setIfInBounds 0 (.int .i64 (a:Int))=wv a (rep 64):=by
  apply Array.ext'
  rw[Array.toList_setIfInBounds,wv_list,wv_list]
  rfl
 have hf:=foldl_set 1 (cv .u8 x).toList 0 (wv a (rep 64)) (by rw[Array.length_toList,cv_size,wv_size,rep_length];omega)
 have h2:(cv .u8 x).zipIdx.foldl (fun cs (c,j)=>cs.setIfInBounds (1+j) c) (wv a (rep 64))=wv a x:=by
  rw[←Array.foldl_toList,Array.toList_zipIdx,hf]
  apply Array.ext'
  rw[wv_list,wv_list]
  have e1:((cv .u8 (rep 64)).toList).length=64:=by rw[Array.length_toList,cv_size,rep_length]
  have e2:((cv .u8 x).toList).length=64:=by rw[Array.length_toList,cv_size,hx]
  show List.take 1 (Value.int .i64 (a:Int) :: (cv .u8 (rep 64)).toList)++(cv .u8 x).toList++List.drop (1+0+((cv .u8 x).toList).length) (Value.int .i64 (a:Int) :: (cv .u8 (rep 64)).toList)=_
  rw[e2,List.drop_of_length_le (by rw[List.length_cons,e1];decide),List.append_nil]
  rfl
 have e0:(Value.int .i64 (a:Int)).cells.zipIdx.foldl (fun cs (c,j)=>cs.setIfInBounds (0+j) c) (wv 0 (rep 64))=wv a (rep 64):=by
  rw[←h1];simp[Value.cells]
 have hfill:Instr.fill ((#[(0,1),(1,64)]:Array (Nat×Nat))[·]?) (wv 0 (rep 64)) [(0,.int .i64 (a:Int)),(1,.agg (cv .u8 x))]=some (wv a x):=by
  rw[fill_step (off:=0) (n:=1) rfl rfl (by rw[wv_size];omega),e0,fill_step (off:=1) (n:=64) rfl (by show (cv .u8 x).size=_;rw[cv_size,hx]) (by rw[wv_size,rep_length];decide)]
  unfold Instr.fill
  exact congrArg some h2
 unfold buN Instr.build
 simp only[Sem.run_bind,run_zeroOf z222,Result.andThen_ok,Value.cells,run_underlying un74,pl74]
 simp only[hfill]
 rfl
attribute [local go_sem] bu222 sec_eq
theorem refE_ok{o:Bool}{n:Nat}{x:Int}(h:refE o n x=0):o=false∧∃a:Nat,x=(a:Int)∧a<n:=by
 unfold refE at h
 cases o with
 |true=>simp at h
 |false =>
  refine⟨rfl,?_⟩
  simp only[Bool.false_eq_true,if_false]at h
  split at h
  ·cases h
  ·exact⟨x.toNat,by omega,by omega⟩
theorem refused_any(w:World)(l:List Obj)(d i:Nat){p:Option Addr}{m c:Nat}{vl vw:Value}{n:Nat}{a:Int}{k:Nat}{t:Int}{o:Bool}(x:Int)(h:l[i]?=some (.cells (dc (.slice p m c) vl vw n a k t o) 104 (0,0))) :
  Calls Tryz.prog 126 #[.pointer (some ⟨w.heap.size+i,0,none⟩),.int .i64 x] (Wd w l d) fun e w'=>e=.returned (.int .i64 ((refE o m x:Nat):Int))∧Wd w l d=w':=by
 cases o with
 |true =>
  have e:refE true m x=7:=rfl
  rw[e]
  exact refused_down w l d i x h
 |false =>
  by_cases hx:x<0∨(m:Int)≤x
  ·have e:refE false m x=1:=by unfold refE;rw[if_neg (by simp),if_pos hx]
   rw[e]
   exact refused_range w l d i x hx h
  ·have e:refE false m x=0:=by unfold refE;rw[if_neg (by simp),if_neg hx]
   rw[e]
   obtain⟨y,rfl⟩:∃y:Nat,x=y:=⟨x.toNat,by omega⟩
   exact refused_ok w l d i y (by omega) h
set_option maxRecDepth 100000 in
set_option maxHeartbeats 1000000 in
theorem read_any(w:World)(l:List Obj)(d i s q:Nat)(vw:Value)(O:Nat→Prop)(M:Dk)(x:Int)(h:DAt w l i s q vw O M) :
  Calls Tryz.prog 95 #[.pointer (some ⟨w.heap.size+i,0,none⟩),.int .i64 x] (Wd w l d) fun e w'=>e=.returned (.tuple #[.string (mkS (M.read x).1),.int .i64 (((M.read x).2:Nat):Int)])∧w'=Wd w l d:=by
 have hd:=h.hd
 have hs:=h.hs
 have H:=Lib.hid h
 clear h
 by_cases hr:refE M.off M.n x=0
 ·obtain⟨ho,a,rfl,ha⟩:=refE_ok hr
  have HE:=Lib.hid (show M.read (a:Int)=(sec M.seen a,0) by unfold Dk.read;rw[if_pos hr];rfl)
  rw[HE.out]
  have hai:(a:Int)<M.n:=by omega
  have hfit:a*64+64≤M.n*64:=by omega
  have hsl:=H.out.ok.seenL
  have HR:=Lib.hid hr
  clear hr HE
  go_enter Tryz.func95,Tryz.ntmps95
  go_wp2_with fail
  refine(refused_any w l d i _ hd).mono ?_
  rintro e w' ⟨rfl,rfl⟩
  rw[HR.out]
  go_wp2
  go_ret2
  exact⟨rfl,rfl⟩
 ·have HE:=Lib.hid (show M.read x=([],refE M.off M.n x) by unfold Dk.read;rw[if_neg hr])
  rw[HE.out]
  obtain⟨r,hr'⟩:∃r,refE M.off M.n x=r:=⟨_,rfl⟩
  rw[hr']at hr ⊢
  have hb:((r:Int) != 0)=true:=by simp;omega
  have HR:=Lib.hid hr'
  clear hr HE hr'
  go_enter Tryz.func95,Tryz.ntmps95
  go_wp2_with fail
  refine(refused_any w l d i _ hd).mono ?_
  rintro e w' ⟨rfl,rfl⟩
  rw[HR.out]
  go_wp2
  go_ret2
  exact⟨rfl,rfl⟩
end Go.Proofs.YtlogjpmdfimgdaaGreatDoor.Jf
namespace Go.Proofs.YtlogjpmdfimgdaaGreatDoor.Jf
open Go.RowKit Go.Own.Jf
attribute [local go_sem] bu222 sec_eq
theorem DAt.app{w:World}{l:List Obj}{i s q:Nat}{vw:Value}{O:Nat→Prop}{M:Dk}(h:DAt w l i s q vw O M)(g:List Obj):DAt w (l++g) i s q vw O M :=
 h.keep fun _ hp hlt=>⟨hp,List.getElem?_append_left hlt⟩
set_option maxRecDepth 100000 in
set_option maxHeartbeats 1000000 in
theorem write_any(w:World)(l:List Obj)(d i s q:Nat)(vw:Value)(O:Nat→Prop)(M:Dk)(x:Int)(y:ByteArray)(h:DAt w l i s q vw O M)(hc:M.count<1099511627776)(hO:∀p,O p→p<l.length) :
  Calls Tryz.prog 119 #[.pointer (some ⟨w.heap.size+i,0,none⟩),.int .i64 x,.string y] (Wd w l d) fun e w'=>e=.returned (.int .i64 (((M.write x (bys y)).2:Nat):Int))∧∃l' d' vw',w'=Wd w l' d'∧DAt w l' i s q vw' O (M.write x (bys y)).1∧Kp O l l':=by
 have hd:=h.hd
 have H:=Lib.hid h
 have HO:=Lib.hid hO
 clear h hO
 by_cases hr:refE M.off M.n x=0
 ·obtain⟨ho,a,rfl,ha⟩:=refE_ok hr
  have HR:=Lib.hid hr
  by_cases h64:64<y.size
  ·have HE:=Lib.hid (show M.write (a:Int) (bys y)=(M,3) by unfold Dk.write;rw[if_pos hr,if_pos (by rw[bys_length];exact h64)])
   rw[HE.out]
   clear hr
   go_enter Tryz.func119,Tryz.ntmps119
   go_wp2_with fail
   refine(refused_any w l d i _ hd).mono ?_
   rintro e w' ⟨rfl,rfl⟩
   rw[HR.out]
   go_wp2
   go_ret
   exact⟨rfl,l,d,vw,rfl,H.out,Kp.refl O l⟩
  ·have HE:=Lib.hid (show M.write (a:Int) (bys y)=(M.waited a (filL (bys y))).counted by unfold Dk.write;rw[if_pos hr,if_neg (by rw[bys_length];exact h64)];rfl)
   rw[HE.out]
   have h64':¬64<(y.size:Int):=by omega
   have hfl:(filL (bys y)).length=64:=filL_length (by rw[bys_length];omega)
   have HF:=Lib.hid (filL_B8 (B8.bys y))
   have HSZ:=Lib.hid (show y.size≤64 by omega)
   clear hr h64
   go_enter Tryz.func119,Tryz.ntmps119
   go_wp2_with fail
   refine(refused_any w l d i _ hd).mono ?_
   rintro e w' ⟨rfl,rfl⟩
   rw[HR.out]
   go_wp2_with fail
   refine(filled_any y HSZ.out _).mono ?_
   rintro e w' ⟨rfl,g,d',rfl⟩
   rw[Wd_wd]
   clear hd
   go_wp2_with fail
   refine(wait_any w _ _ i s q vw O M a (filL (bys y)) (H.out.app g) ha hfl HF.out hc (fun p hp=>by have:=HO.out p hp;simp;omega)).mono ?_
   rintro e w' ⟨rfl,l1,d1,vw1,rfl,hA,hK⟩
   have HA:=Lib.hid hA
   have HK:=Lib.hid ((Kp.app O l g).trans hK)
   clear hA hK
   go_wp2_with fail
   refine(counted_any w l1 _ i s q vw1 O _ HA.out (show M.count+1≤_ by omega) (fun p hp=>by have:=HO.out p hp;have:=HK.out.1;omega)).mono ?_
   rintro e w' ⟨rfl,l2,d2,vw2,rfl,hA2,hK2⟩
   have HA2:=Lib.hid hA2
   have HK2:=Lib.hid hK2
   clear hA2 hK2
   go_wp2
   go_ret
   exact⟨rfl,_,_,vw2,rfl,HA2.out,HK.out.trans HK2.out⟩
 ·have HE:=Lib.hid (show M.write x (bys y)=(M,refE M.off M.n x) by unfold Dk.write;rw[if_neg hr])
  rw[HE.out]
  obtain⟨r,hr'⟩:∃r,refE M.off M.n x=r:=⟨_,rfl⟩
  rw[hr']at hr ⊢
  have hb:((r:Int) != 0)=true:=by simp;omega
  have HR:=Lib.hid hr'
  clear hr HE hr'
  go_enter Tryz.func119,Tryz.ntmps119
  go_wp2_with fail
  refine(refused_any w l d i _ hd).mono ?_
  rintro e w' ⟨rfl,rfl⟩
  rw[HR.out]
  go_wp2
  go_ret
  exact⟨rfl,l,d,vw,rfl,H.out,Kp.refl O l⟩
theorem down2_any(w:World)(l:List Obj)(d i s q:Nat)(vw:Value)(O:Nat→Prop)(M:Dk)(h:DAt w l i s q vw O M) :
  Calls Tryz.prog 41 #[.pointer (some ⟨w.heap.size+i,0,none⟩)] (Wd w l d) fun e w'=>e=.returned (.bool M.off)∧w'=Wd w l d :=
 (down_any w l d i h.hd).mono fun _ _ ⟨h1,h2⟩=>⟨h1,h2.symm⟩
theorem size2_any(w:World)(l:List Obj)(d i s q:Nat)(vw:Value)(O:Nat→Prop)(M:Dk)(h:DAt w l i s q vw O M) :
  Calls Tryz.prog 40 #[.pointer (some ⟨w.heap.size+i,0,none⟩)] (Wd w l d) fun e w'=>e=.returned (.int .i64 (M.n:Int))∧w'=Wd w l d :=
 (size_any w l d i h.hd).mono fun _ _ ⟨h1,h2⟩=>⟨h1,h2.symm⟩
theorem zeros64(n:Nat):(Array.range (n*64)).map (fun i=>(cv .u8 (rep 64))[i%64]!)=cv .u8 (rep (n*64)):=by
 have e:(fun i:Nat=>(cv .u8 (rep 64))[i%64]!)=fun _=>.int .u8 0:=funext fun i=>by
  have hlt:i%64<64:=Nat.mod_lt _ (by decide)
  have hg:=cv_get .u8 (rep 64) (i%64) (by rw[rep_length];exact hlt)
  rw[rep_gi]at hg
  show (cv .u8 (rep 64))[i%64]! = _
  rw[getElem!_def,hg]
  rfl
 rw[e]
 apply Array.ext'
 rw[Array.toList_map,Array.toList_range,List.map_const',List.length_range]
 simp only[cv,rep,List.map_replicate]
 rfl
theorem mk63{w:World}{l:List Obj}{d n:Nat}(h1:1≤n)(hn:n≤4096) :
  mkX Tryz.prog 101 (.agg (cv .u8 (rep 64))) w l d (n:Int) (n:Int)=.ok (.slice (some ⟨w.heap.size+l.length,0,none⟩) n n) (Wd w (l++[.cells (cv .u8 (rep (n*64))) 208 (0,0)]) d):=by
 cases hi:Tryz.prog.info? 208 with
 |none=>exact absurd hi (by
   have:(Tryz.prog.info? 208).isSome=true:=by kernel_rfl
   intro e;rw[e]at this;cases this)
 |some i =>
  have hb:i.bytes=64:=by
   have h:=show (Tryz.prog.info? 208).map (fun i=>i.bytes)=some 64 by kernel_rfl
   rw[hi]at h
   simpa using h
  have hw:IntKind.i64.wrap (n:Int)=n:=IntWalk.i64_in _ (by omega)
  have hz:=zeros64 n
  have e1:¬((281474976710656:Int)<64*n):=by omega
  have e2:¬((n:Int)<0):=by omega
  have e3:¬n=0:=by omega
  have e4:¬n*64=0:=by omega
  obtain⟨m,hm⟩:∃m,n*64=m:=⟨_,rfl⟩
  rw[hm]at hz e4 ⊢
  simp[mkX,Instr.makeSlice,run_underlying Tryz.underlying101,asInt,asIntOf,typeInfo,hi,hb,hw,e1,e2,e4,hm,run_zeroOf z208,Value.cells,newRow,hz,Wd_size,Wd_alloc]
theorem bu104(p r:Option Addr)(a b c e:Nat)(W:World):(buN 104 #[(0,.slice p a b),(1,.slice r c e)]).run Tryz.prog W=.ok (.agg (dc (.slice p a b) (.slice r c e) (.slice none 0 0) 0 0 0 0 false)) W:=by kernel_rfl
attribute [local go_sem] mk63 bu104
set_option maxRecDepth 100000 in
set_option maxHeartbeats 1000000 in
theorem new_any(w:World)(l:List Obj)(d n:Nat)(h1:1≤n)(h2:n≤4096)(O:Nat→Prop)(hO:∀p,O p→p<l.length) :
  Calls Tryz.prog 23 #[.int .i64 (n:Int)] (Wd w l d) fun e w'=>∃i s q l' d' vw,e=.returned (.tuple #[.pointer (some ⟨w.heap.size+i,0,none⟩),.int .i64 0])∧w'=Wd w l' d'∧DAt w l' i s q vw O (newK n)∧Kp O l l'∧i=l.length+2:=by
 have h1':¬(n:Int)<1:=by omega
 have h2':¬4096<(n:Int):=by omega
 go_enter Tryz.func23,Tryz.ntmps23
 go_wp2
 go_region
 all_goals
  go_wp2
  go_ret2
 ·refine⟨l.length+2,l.length,l.length+1,_,_,.slice none 0 0,rfl,rfl,⟨?_,?_,?_,.inl ⟨rfl,rfl,rfl⟩,by omega,by omega,by omega,fun h=>?_,fun h=>?_,fun h=>?_,newK_ok h1 h2⟩,Kp.app _ _ _,rfl⟩
  ·exact at_third rfl
  ·exact at_mid' rfl
  ·exact at_next' rfl
  all_goals have:=hO _ h;omega
 ·refine⟨l.length+2,l.length+1,l.length,_,_,.slice none 0 0,rfl,rfl,⟨?_,?_,?_,.inl ⟨rfl,rfl,rfl⟩,by omega,by omega,by omega,fun h=>?_,fun h=>?_,fun h=>?_,newK_ok h1 h2⟩,Kp.app _ _ _,rfl⟩
  ·exact at_third rfl
  ·exact at_next' rfl
  ·exact at_mid' rfl
  all_goals have:=hO _ h;omega
end Go.Proofs.YtlogjpmdfimgdaaGreatDoor.Jf

/- The document's Commit of its store (f28), an act (f9): by contract. No condition but the law's own guards. | An act to the document's store (f9): by contract. No condition but the law's own guards. | The store and the document's, act by act, plainly; what its texts open to. No condition but what a journal answers. | Both stores in memory, side by side: what lasts. No condition but what a journal answers. | Operations of the walk f3, by themselves. No condition. -/
import Derived.Test.YtlogjpmdfimgdaaGreatDoorX15
import Derived.Test.YtlogjpmdfimgdaaGreatDoorX09
import Derived.Test.YtlogjpmdfimgdaaGreatDoorX13
namespace Go.Proofs.YtlogjpmdfimgdaaGreatDoor
open Go Go.RowKit Go.Own Go.Own.Fr Go.Maps Go.WideMaps
theorem Jb.nostr{W:World}{g:Nat}{a b c:Int}{p:Option Addr}{n k:Nat}(h:Jb W g #[.int .i64 a,.slice p n k,.int .i64 b,.int .i64 c])(o:Nat)(s:ByteArray):W.cell? ⟨g,o,none⟩≠some (.string s):=by
 rw[cell_at h o]
 match o with
 |0=>simp
 |1=>simp
 |2=>simp
 |3=>simp
 |o+4=>simp
theorem Md.app_cases(m:Md)(n:Nat):(m.app n).2=0∨m.app n=(m,6):=by
 unfold Md.app
 split
 ·exact .inr rfl
 ·exact .inl rfl
set_option maxRecDepth 100000 in
set_option maxHeartbeats 4000000 in
theorem dcommit_any(S:Nat→Prop)(T:Nat)(m:Md)(D:List Pr)(v lv:Value)(l:List (ByteArray×V×Bool))(w:World)(hm:m.ok)(h:DS S T w v m D)(hTw:T≤w.heap.size)(hS:∀k,w.heap.size≤k→S k)(hnl:D.length+l.length≤100000)(hpo:∀x∈D,PrOk x)(hl:InChT w lv l T)(hl30:l.length≤30)(hok:∀c∈l,OkC c):Calls Tryz.prog 28 #[v,lv] w (DComQ S T (dcommit m D l) w):=by
 obtain⟨q,x,c,tq,pp,pc,rfl,hrow,htl,hD,hs1,hs2⟩:=h
 have HB1:=Lib.hid hs1
 have HB2:=Lib.hid hs2
 have HS0:=Lib.hid hS
 have HTW:=Lib.hid hTw
 have HROW:=Lib.hid hrow
 have HTL:=Lib.hid htl
 have HD:=Lib.hid hD
 have HOK:=Lib.hid hm
 have HPO:=Lib.hid hpo
 obtain⟨h0,tk,g⟩:=m
 obtain⟨n,hn⟩:∃n,D.length=n:=⟨_,rfl⟩
 have HN:=Lib.hid hn
 have HNL:=Lib.hid hnl
 simp only at HROW HTL HOK ⊢
 rw[hn]at HD ⊢
 have HS:=Lib.hid (Sb.new w #[.int .i64 (h0:Int),.slice q x c,.int .i64 (tk:Int),.int .i64 (g:Int),.slice pp n pc])
 unfold zero34 at HS
 have HIL:=Lib.hid hl
 obtain⟨lp,lc,rfl,hlc,_⟩:=id hl
 have hszl:sz (trA (l.map chV)) 0≤140737488355328:=sz_tr30 _ (szs_acts l hok) (by rw[List.length_map];exact hl30)
 have HT:=Lib.hid (fun W (h:InCh W (.slice lp l.length lc) l)=>text_any l _ W h (by omega) (fun x hx=>⟨by have:=(hok x hx).1;omega,fewT_of x.2.1 1 (hok x hx).2.1⟩) hszl)
 have hps:=prt_size (l.map chV) hszl
 have HAP:=Lib.hid (fun W (hW:T≤W.heap.size) (h:PRowT W (.slice pp n pc) D T) (hu:InChT W (.slice lp l.length lc) l T)=>apply_anyT T D l _ _ W hW h hu (by omega) (fun c hc=>(hok c hc).1))
 have HDL:=Lib.hid (foldl_length l D)
 have HFO:=Lib.hid (fun he=>fold_ok hpo hok he)
 obtain⟨E,hE⟩:∃E,l.foldl layC D=E:=⟨_,rfl⟩
 obtain⟨TA,hTA⟩:∃TA,trA (l.map chV)=TA:=⟨_,rfl⟩
 have HDC:Hid (dcommit ⟨h0,tk,g⟩ D l=if er TA 0≠0 then ((⟨h0,tk,g⟩,D),er TA 0)else if (Md.app ⟨h0,tk,g⟩ (prt TA).size).2=0 then (((Md.app ⟨h0,tk,g⟩ (prt TA).size).1,E),0)else if (Md.anew ⟨h0,tk,g⟩ ((dTxs E).map ByteArray.size)).2=0 then (((Md.anew ⟨h0,tk,g⟩ ((dTxs E).map ByteArray.size)).1,E),0)else ((⟨h0,tk,g⟩,D),((Md.anew ⟨h0,tk,g⟩ ((dTxs E).map ByteArray.size)).2:Int))):=Lib.hid (by unfold dcommit;rw[hTA,hE])
 rw[hTA]at hps HFO
 unfold ApplyT at HAP
 unfold PrintQ at HT
 simp only[hTA]at HT
 simp only[hE]at HAP HDL HFO
 obtain⟨t,ht⟩:∃t,prt TA=t:=⟨_,rfl⟩
 obtain⟨z,hz⟩:∃z,er TA 0=z:=⟨_,rfl⟩
 simp only[ht,hz]at HT HFO HDC hps
 have hEl:E.length≤100000:=by have:=HDL.out;omega
 have HJP:=Lib.hid (fun (v:Value) W (hw:w.heap.size≤W.heap.size) (h:DJ S W v ⟨h0,tk,g⟩)=>dapp_any S ⟨h0,tk,g⟩ v t W hm hps h (fun k hk=>hS k (Nat.le_trans hw hk)))
 have HAN:=Lib.hid (fun (hE:∀x∈E,PrOk x) (v:Value) W (h:PRowT W v E T)=>danew_any E v W h.row hEl hE)
 have HJA:=Lib.hid (fun (hE:∀x∈E,PrOk x) (v u:Value) W (hw:w.heap.size≤W.heap.size) (h:DJ S W v ⟨h0,tk,g⟩) (hu:StrRow W u (dTxs E))=>danewj_any S ⟨h0,tk,g⟩ v u (dTxs E) W hm h (fun k hk=>hS k (Nat.le_trans hw hk)) hu (dTxs_length E hEl) (dTxs_size hE))
 obtain⟨r,hr⟩:∃r,Md.app ⟨h0,tk,g⟩ t.size=r:=⟨_,rfl⟩
 have HAC:=Lib.hid (Md.app_cases ⟨h0,tk,g⟩ t.size)
 obtain⟨r2,hr2⟩:∃r,Md.anew ⟨h0,tk,g⟩ ((dTxs E).map ByteArray.size)=r:=⟨_,rfl⟩
 rw[hr]at HAC
 simp only[hr,hr2]at HJP HJA HDC
 obtain⟨⟨rh,rt,rg⟩,rc⟩:=r
 obtain⟨⟨sh,st,sg⟩,sc⟩:=r2
 obtain⟨ll,hll⟩:∃ll,l.length=ll:=⟨_,rfl⟩
 rw[hll]at HT HAP HIL ⊢
 clear hn hnl hm hpo hrow htl hD hl hszl hTA hE ht hz hr hr2 hps hEl hll hl30 hlc hs1 hs2 hS hTw
 go_enter Tryz.func28,Tryz.ntmps28
 go_wp2_with fail
 refine(HT.out _ (HIL.out.below HTW.out HS.out.be).ch).mono ?_
 rintro e w1 ⟨rfl,hb1⟩
 replace HS:=Lib.hid (HS.out.below hb1)
 obtain⟨a0,a1,a2,a3,a4⟩:=HS.out.cells
 clear hb1
 by_cases hz:z=0
 ·subst hz
  have HEP:=Lib.hid (HFO.out rfl)
  simp only[ne_eq,not_true_eq_false,if_false]at HDC
  go_wp2_with fail
  refine(HAP.out _ (Nat.le_trans HTW.out HS.out.be.size) (HD.out.below HTW.out HS.out.be) (HIL.out.below HTW.out HS.out.be)).mono ?_
  rintro e w2 ⟨ev,rfl,heo,hb2⟩
  have her:=heo.rowTT
  obtain⟨ep,ec,rfl,hec,_⟩:=id her
  have HESB:=Lib.hid (heo.sb fun k hk=>HS0.out k (Nat.le_trans HS.out.be.size hk))
  obtain⟨k,hk⟩:∃k,E.length=k:=⟨_,rfl⟩
  have HK:=Lib.hid hk
  rw[hk]at her ⊢
  have HER:=Lib.hid her
  replace HS:=Lib.hid (HS.out.below hb2)
  clear a0 a1 a2 a3 a4
  obtain⟨a0,a1,a2,a3,a4⟩:=HS.out.cells
  clear hb2 heo her hec hk
  go_wp2_with fail
  refine(HJP.out _ _ HS.out.be.size ⟨q,x,c,tq,rfl,HROW.out.below HS.out.be,HTL.out,HB1.out.up HS.out.be.size⟩).mono ?_
  rintro e w3 ⟨jv,rfl,⟨jq,jx,jc,jts,rfl,hj1,hj2,hj3⟩,hb3⟩
  simp only at hj1 hj2 ⊢
  replace HER:=Lib.hid (HER.out.below (Nat.le_trans HTW.out HS.out.be.size) hb3)
  have HS2:=HS.out.below hb3
  replace HS:=Lib.hid (HS2.below (below_new w3 (.cells #[.int .i64 (rh:Int),.slice jq jx jc,.int .i64 (rt:Int),.int .i64 (rg:Int)] 31)))
  have HJ:=Lib.hid (Jb.new w3 #[.int .i64 (rh:Int),.slice jq jx jc,.int .i64 (rt:Int),.int .i64 (rg:Int)])
  have HJ1:=Lib.hid (StrRow.below hj1 (below_new w3 (.cells #[.int .i64 (rh:Int),.slice jq jx jc,.int .i64 (rt:Int),.int .i64 (rg:Int)] 31)))
  have HJ2:=Lib.hid hj2
  have HJ3:=Lib.hid (hj3.up (below_new w3 (.cells #[.int .i64 (rh:Int),.slice jq jx jc,.int .i64 (rt:Int),.int .i64 (rg:Int)] 31)).size)
  replace HESB:=Lib.hid (HESB.out.up (Nat.le_trans hb3.size (below_new w3 (.cells #[.int .i64 (rh:Int),.slice jq jx jc,.int .i64 (rt:Int),.int .i64 (rg:Int)] 31)).size))
  replace HER:=Lib.hid (HER.out.below (Nat.le_trans HTW.out HS2.be.size) (below_new w3 (.cells #[.int .i64 (rh:Int),.slice jq jx jc,.int .i64 (rt:Int),.int .i64 (rg:Int)] 31)))
  clear a0 a1 a2 a3 a4
  obtain⟨a0,a1,a2,a3,a4⟩:=HS.out.cells
  have HGS:=Lib.hid (show w.heap.size+1<w3.heap.size from(Array.getElem?_eq_some_iff.1 HS2.b).1)
  clear hj1 hj2 hj3 hb3 HS2
  by_cases hc:rc=0
  ·subst hc
   simp only[if_true]at HDC
   have I0:=Lib.hid (show (Tryz.prog.info? 34).map (·.size)=some (#[.int .i64 (rh:Int),.slice jq jx jc,.int .i64 (rt:Int),.int .i64 (rg:Int),.slice ep k ec]:Array Value).size from i34)
   have I1:=Lib.hid (show (#[.int .i64 0,.slice none 0 0,.int .i64 0,.int .i64 0,.slice none 0 0]:Array Value).size=(#[.int .i64 (rh:Int),.slice jq jx jc,.int .i64 (rt:Int),.int .i64 (rg:Int),.slice ep k ec]:Array Value).size from rfl)
   have I2:=Lib.hid (show (#[.int .i64 (rh:Int),.slice jq jx jc,.int .i64 (rt:Int),.int .i64 (rg:Int),.slice ep k ec]:Array Value).all (·.oneCell')=true by simp[Value.oneCell'])
   go_wp2_with (with_reducible refine wpList_put 34 (w.heap.size+1) _ _ rfl rfl HS.out.b I0.out I1.out I2.out ?_)
   intro w9 hg hgr
   have HG:=Lib.hid hg
   have HB:=Lib.hid (below_put HS.out.be hgr HS.out.be.size (Nat.le_succ _))
   have HJ9:Hid (StrRow w9 (.slice jq jx jc) jts):=Lib.hid (HJ1.out.put hgr HS.out.nostr)
   have HE9:Hid (PRowT w9 (.slice ep k ec) E T):=Lib.hid (HER.out.put (by have:=HTW.out;omega) hgr HS.out.nostr)
   have HJ93:=Lib.hid (HJ3.out.up hgr.size)
   have HE93:=Lib.hid (HESB.out.up hgr.size)
   clear hg hgr
   go_wp2
   refine bodyPost_ret (v:=.tuple #[.agg #[.int .i64 (rh:Int),.slice jq jx jc,.int .i64 (rt:Int),.int .i64 (rg:Int),.slice ep k ec],.int .i64 0]) (res2 Tryz.results28 _ _ _ (w.heap.size+1) _ _ rfl rfl (ld34 HG.out)) rfl ?_
   rw[HDC.out]
   exact⟨_,rfl,⟨jq,jx,jc,jts,ep,ec,by rw[HK.out],HJ9.out,HJ2.out,by rw[HK.out];exact HE9.out,HJ93.out,HE93.out⟩,HB.out⟩
  ·have hci:¬(rc:Int)=0:=by omega
   have hcb:((rc:Int) != 0)=true:=by simpa using hci
   rw[if_neg hc]at HDC
   go_wp2_with fail
   refine(HAN.out HEP.out _ _ HER.out).mono ?_
   rintro e w4 ⟨tu,rfl,hto,hb4⟩
   have HTO:=Lib.hid hto.strs
   obtain⟨tp,tc,htu⟩:=hto.form
   obtain⟨tn,htn⟩:∃tn,(dTxs E).length=tn:=⟨_,rfl⟩
   rw[htn]at htu
   subst htu
   replace HER:=Lib.hid (HER.out.below (Nat.le_trans HTW.out HS.out.be.size) hb4)
   replace HESB:=Lib.hid (HESB.out.up hb4.size)
   replace HS:=Lib.hid (HS.out.below hb4)
   replace HJ:=Lib.hid (HJ.out.below hb4)
   clear a0 a1 a2 a3 a4
   obtain⟨a0,a1,a2,a3,a4⟩:=HS.out.cells
   clear hb4 hto htn
   go_wp2_with fail
   refine(HJA.out HEP.out _ _ _ HS.out.be.size ⟨q,x,c,tq,rfl,HROW.out.below HS.out.be,HTL.out,HB1.out.up HS.out.be.size⟩ HTO.out).mono ?_
   rintro e w5 ⟨sv,rfl,⟨sq,sx,sxc,sts,rfl,hs1,hs2,hs3⟩,hb5⟩
   simp only at hs1 hs2 ⊢
   have HS1:=Lib.hid hs1
   have HS2:=Lib.hid hs2
   have HS3:=Lib.hid hs3
   replace HER:=Lib.hid (HER.out.below (Nat.le_trans HTW.out HS.out.be.size) hb5)
   replace HESB:=Lib.hid (HESB.out.up hb5.size)
   replace HS:=Lib.hid (HS.out.below hb5)
   replace HJ:=Lib.hid (HJ.out.below hb5)
   clear a0 a1 a2 a3 a4
   have K0:=Lib.hid (show (Tryz.prog.info? 31).map (·.size)=some (#[.int .i64 (sh:Int),.slice sq sx sxc,.int .i64 (st:Int),.int .i64 (sg:Int)]:Array Value).size from i31)
   have K1:=Lib.hid (show (#[.int .i64 (rh:Int),.slice jq jx jc,.int .i64 (rt:Int),.int .i64 (rg:Int)]:Array Value).size=(#[.int .i64 (sh:Int),.slice sq sx sxc,.int .i64 (st:Int),.int .i64 (sg:Int)]:Array Value).size from rfl)
   have K2:=Lib.hid (show (#[.int .i64 (sh:Int),.slice sq sx sxc,.int .i64 (st:Int),.int .i64 (sg:Int)]:Array Value).all (·.oneCell')=true by simp[Value.oneCell'])
   clear hs1 hs2 hs3 hb5
   have HJH:Hid (w5.heap[w3.heap.size]?=some (.cells #[.int .i64 (rh:Int),.slice jq jx jc,.int .i64 (rt:Int),.int .i64 (rg:Int)] 31 (0,0))):=HJ
   go_wp2_with (with_reducible refine wpList_put 31 w3.heap.size _ _ rfl rfl HJH.out K0.out K1.out K2.out ?_)
   intro w6 hg6 hgr6
   have HJ6:Hid (Jb w6 w3.heap.size #[.int .i64 (sh:Int),.slice sq sx sxc,.int .i64 (st:Int),.int .i64 (sg:Int)]):=Lib.hid hg6
   have HS6:Hid (Sb w #[.int .i64 (h0:Int),.slice q x c,.int .i64 (tk:Int),.int .i64 (g:Int),.slice pp n pc] w6):=Lib.hid ⟨(hgr6.block w.heap.size (Array.getElem?_eq_some_iff.1 HS.out.a).1 (fun e=>by have:=Option.some.inj e;have:=HGS.out;omega)).trans HS.out.a,(hgr6.block (w.heap.size+1) (Array.getElem?_eq_some_iff.1 HS.out.b).1 (fun e=>by have:=Option.some.inj e;have:=HGS.out;omega)).trans HS.out.b,below_put HS.out.be hgr6 HS.out.be.size (by have:=HGS.out;omega)⟩
   have HS1':Hid (StrRow w6 (.slice sq sx sxc) sts):=Lib.hid (HS1.out.put hgr6 HJ.out.nostr)
   replace HESB:=Lib.hid (HESB.out.up hgr6.size)
   replace HS3:=Lib.hid (HS3.out.up hgr6.size)
   have HE6:Hid (PRowT w6 (.slice ep k ec) E T):=Lib.hid (HER.out.put (by have:=HTW.out;have:=HGS.out;omega) hgr6 HJ.out.nostr)
   obtain⟨a0,a1,a2,a3,a4⟩:=HS6.out.cells
   obtain⟨b0,b1,b2,b3⟩:=HJ6.out.cells
   clear hg6 hgr6 HS HJ HJH HER HS1 HJ1
   by_cases hd:sc=0
   ·subst hd
    simp only[if_true]at HDC
    have I0:=Lib.hid (show (Tryz.prog.info? 34).map (·.size)=some (#[.int .i64 (sh:Int),.slice sq sx sxc,.int .i64 (st:Int),.int .i64 (sg:Int),.slice ep k ec]:Array Value).size from i34)
    have I1:=Lib.hid (show (#[.int .i64 0,.slice none 0 0,.int .i64 0,.int .i64 0,.slice none 0 0]:Array Value).size=(#[.int .i64 (sh:Int),.slice sq sx sxc,.int .i64 (st:Int),.int .i64 (sg:Int),.slice ep k ec]:Array Value).size from rfl)
    have I2:=Lib.hid (show (#[.int .i64 (sh:Int),.slice sq sx sxc,.int .i64 (st:Int),.int .i64 (sg:Int),.slice ep k ec]:Array Value).all (·.oneCell')=true by simp[Value.oneCell'])
    go_wp2_with (with_reducible refine wpList_put 34 (w.heap.size+1) _ _ rfl rfl HS6.out.b I0.out I1.out I2.out ?_)
    intro w9 hg hgr
    have HG:=Lib.hid hg
    have HB:=Lib.hid (below_put HS6.out.be hgr HS6.out.be.size (Nat.le_succ _))
    have HJ9:Hid (StrRow w9 (.slice sq sx sxc) sts):=Lib.hid (HS1'.out.put hgr HS6.out.nostr)
    have HJ93:=Lib.hid (HS3.out.up hgr.size)
    have HE93:=Lib.hid (HESB.out.up hgr.size)
    have HE9:Hid (PRowT w9 (.slice ep k ec) E T):=Lib.hid (HE6.out.put (by have:=HTW.out;omega) hgr HS6.out.nostr)
    clear hg hgr
    go_wp2
    refine bodyPost_ret (v:=.tuple #[.agg #[.int .i64 (sh:Int),.slice sq sx sxc,.int .i64 (st:Int),.int .i64 (sg:Int),.slice ep k ec],.int .i64 0]) (res2 Tryz.results28 _ _ _ (w.heap.size+1) _ _ rfl rfl (ld34 HG.out)) rfl ?_
    rw[HDC.out]
    exact⟨_,rfl,⟨sq,sx,sxc,sts,ep,ec,by rw[HK.out],HJ9.out,HS2.out,by rw[HK.out];exact HE9.out,HJ93.out,HE93.out⟩,HB.out⟩
   ·have hdi:¬(sc:Int)=0:=by omega
    have hdb:((sc:Int) != 0)=true:=by simpa using hdi
    rw[if_neg hd]at HDC
    have I0:=Lib.hid (show (Tryz.prog.info? 34).map (·.size)=some (#[.int .i64 (h0:Int),.slice q x c,.int .i64 (tk:Int),.int .i64 (g:Int),.slice pp n pc]:Array Value).size from i34)
    have I1:=Lib.hid (show (#[.int .i64 0,.slice none 0 0,.int .i64 0,.int .i64 0,.slice none 0 0]:Array Value).size=(#[.int .i64 (h0:Int),.slice q x c,.int .i64 (tk:Int),.int .i64 (g:Int),.slice pp n pc]:Array Value).size from rfl)
    have I2:=Lib.hid (show (#[.int .i64 (h0:Int),.slice q x c,.int .i64 (tk:Int),.int .i64 (g:Int),.slice pp n pc]:Array Value).all (·.oneCell')=true by simp[Value.oneCell'])
    go_wp2_with (with_reducible refine wpList_put 34 (w.heap.size+1) _ _ rfl rfl HS6.out.b I0.out I1.out I2.out ?_)
    intro w9 hg hgr
    have HG:=Lib.hid hg
    have HB:=Lib.hid (below_put HS6.out.be hgr HS6.out.be.size (Nat.le_succ _))
    clear hg hgr
    clear a0 a1 a2 a3 a4
    go_wp2
    refine bodyPost_ret (v:=.tuple #[.agg #[.int .i64 (h0:Int),.slice q x c,.int .i64 (tk:Int),.int .i64 (g:Int),.slice pp n pc],.int .i64 (sc:Int)]) (res2 Tryz.results28 _ _ _ (w.heap.size+1) _ _ rfl rfl (ld34 HG.out)) rfl ?_
    rw[HDC.out]
    exact⟨_,rfl,⟨q,x,c,tq,pp,pc,by rw[HN.out],HROW.out.below HB.out,HTL.out,by rw[HN.out];exact HD.out.below HTW.out HB.out,HB1.out.up HB.out.size,HB2.out.up HB.out.size⟩,HB.out⟩
 ·have hzb:(z != 0)=true:=by simpa using hz
  rw[if_pos hz]at HDC
  have I0:=Lib.hid (show (Tryz.prog.info? 34).map (·.size)=some (#[.int .i64 (h0:Int),.slice q x c,.int .i64 (tk:Int),.int .i64 (g:Int),.slice pp n pc]:Array Value).size from i34)
  have I1:=Lib.hid (show (#[.int .i64 0,.slice none 0 0,.int .i64 0,.int .i64 0,.slice none 0 0]:Array Value).size=(#[.int .i64 (h0:Int),.slice q x c,.int .i64 (tk:Int),.int .i64 (g:Int),.slice pp n pc]:Array Value).size from rfl)
  have I2:=Lib.hid (show (#[.int .i64 (h0:Int),.slice q x c,.int .i64 (tk:Int),.int .i64 (g:Int),.slice pp n pc]:Array Value).all (·.oneCell')=true by simp[Value.oneCell'])
  go_wp2_with (with_reducible refine wpList_put 34 (w.heap.size+1) _ _ rfl rfl HS.out.b I0.out I1.out I2.out ?_)
  intro w9 hg hgr
  have HG:=Lib.hid hg
  have HB:=Lib.hid (below_put HS.out.be hgr HS.out.be.size (Nat.le_succ _))
  clear hg hgr
  clear a0 a1 a2 a3 a4
  go_wp2
  refine bodyPost_ret (v:=.tuple #[.agg #[.int .i64 (h0:Int),.slice q x c,.int .i64 (tk:Int),.int .i64 (g:Int),.slice pp n pc],.int .i64 z]) (res2 Tryz.results28 _ _ _ (w.heap.size+1) _ _ rfl rfl (ld34 HG.out)) rfl ?_
  rw[HDC.out]
  exact⟨_,rfl,⟨q,x,c,tq,pp,pc,by rw[HN.out],HROW.out.below HB.out,HTL.out,by rw[HN.out];exact HD.out.below HTW.out HB.out,HB1.out.up HB.out.size,HB2.out.up HB.out.size⟩,HB.out⟩
end Go.Proofs.YtlogjpmdfimgdaaGreatDoor
namespace Go.Proofs.YtlogjpmdfimgdaaGreatDoor
open Go Go.RowKit Go.Own Go.Own.Fr Go.Maps Go.WideMaps
theorem DS.put{S:Nat→Prop}{T:Nat}{w w':World}{v:Value}{m:Md}{D:List Pr}{g:Nat}(h:DS S T w v m D)(hT:T≤g)(hg:w.grownBy w' (some g))(hne:∀o s,w.cell? ⟨g,o,none⟩≠some (.string s)):DS S T w' v m D:=by
 obtain⟨q,x,c,ts,p,cap,h1,h2,h3,h4,h5,h6⟩:=h
 exact⟨q,x,c,ts,p,cap,h1,h2.put hg hne,h3,h4.put hT hg hne,h5.up hg.size,h6.up hg.size⟩
theorem zero34_nostr{W:World}{g:Nat}(h:W.heap[g]?=some (.cells zero34 34 (0,0)))(o:Nat)(s:ByteArray):W.cell? ⟨g,o,none⟩≠some (.string s):=by
 rw[cell_at h o]
 match o with
 |0=>simp
 |1=>simp
 |2=>simp
 |3=>simp
 |4=>simp
 |o+5=>simp
set_option maxRecDepth 100000 in
set_option maxHeartbeats 4000000 in
theorem dact_any(S:Nat→Prop)(T:Nat)(m:Md)(D:List Pr)(v lv:Value)(a:Ac)(w:World)(hm:m.ok)(h:DS S T w v m D)(hTw:T≤w.heap.size)(hS:∀k,w.heap.size≤k→S k)(hnl:D.length+a.l.length≤100000)(hpo:∀x∈D,PrOk x)(hl:InChT w lv a.l T)(ha:OkA a) :
  Calls Tryz.prog 9 #[v,.agg #[lv,.bool a.cp,.int .i64 a.k1,.int .u64 a.k2,.int .i64 a.k3]] w (DComQ S T (dact m D a) w):=by
 have HC1:=Lib.hid (fun W (hw:w.heap.size≤W.heap.size) (h:DS S T W v m D)=>dcompact_any S T m D v W hm h (Nat.le_trans hTw hw) (fun k hk=>hS k (Nat.le_trans hw hk)) (by omega) hpo)
 have HC2:=Lib.hid (fun W (hw:w.heap.size≤W.heap.size) (h:DS S T W v m D) (hl:InChT W lv a.l T)=>dcommit_any S T m D v lv a.l W hm h (Nat.le_trans hTw hw) (fun k hk=>hS k (Nat.le_trans hw hk)) hnl hpo hl ha.1 ha.2)
 have HTW:=Lib.hid hTw
 have HDS:=Lib.hid h
 have HIL:=Lib.hid hl
 obtain⟨q,x,c,tq,pp,pc,rfl,_⟩:=id h
 obtain⟨lp,lc,rfl,_⟩:=id hl
 obtain⟨n,hn⟩:∃n,D.length=n:=⟨_,rfl⟩
 obtain⟨ll,hll⟩:∃n,a.l.length=n:=⟨_,rfl⟩
 obtain⟨h0,tk,g⟩:=m
 simp only at HC1 HC2 HDS ⊢
 rw[hn]at HDS HC1 HC2 ⊢
 rw[hll]at HIL HC2 ⊢
 obtain⟨W0,hW0⟩:∃W0,((w.alloc (.cells #[.int .i64 (h0:Int),.slice q x c,.int .i64 (tk:Int),.int .i64 (g:Int),.slice pp n pc] 34)).alloc (.cells #[.slice lp ll lc,.bool a.cp,.int .i64 a.k1,.int .u64 a.k2,.int .i64 a.k3] 43)).alloc (.cells #[.int .i64 0,.slice none 0 0,.int .i64 0,.int .i64 0,.slice none 0 0] 34)=W0:=⟨_,rfl⟩
 have HB0:Hid (Below w.heap.size w W0):=Lib.hid (by rw[←hW0];exact(((Below.refl _ w).alloc (Nat.le_refl _) _).alloc (by simp) _).alloc (by simp;omega) _)
 have HR0:Hid (W0.heap[w.heap.size+1+1]?=some (.cells zero34 34 (0,0))):=Lib.hid (by
  have:=heap_alloc_new ((w.alloc (.cells #[.int .i64 (h0:Int),.slice q x c,.int .i64 (tk:Int),.int .i64 (g:Int),.slice pp n pc] 34)).alloc (.cells #[.slice lp ll lc,.bool a.cp,.int .i64 a.k1,.int .u64 a.k2,.int .i64 a.k3] 43)) (.cells zero34 34)
  rw[World.size_alloc,World.size_alloc]at this
  rw[←hW0];exact this)
 have HD0:=Lib.hid (HDS.out.below hTw HB0.out)
 have HI0:=Lib.hid (HIL.out.below hTw HB0.out)
 unfold dact
 cases hcp:a.cp
 ·rw[hcp]at hW0
  have HW1:=Lib.hid hW0
  clear hW0
  simp only[Bool.false_eq_true,if_false]
  obtain⟨r,hr⟩:∃r,dcommit ⟨h0,tk,g⟩ D a.l=r:=⟨_,rfl⟩
  rw[hr]at HC2 ⊢
  obtain⟨⟨m',D'⟩,z⟩:=r
  clear hnl hpo hl h hn hll hr hm ha hcp hTw hS
  go_enter Tryz.func9,Tryz.ntmps9
  go_wp2_with fail
  rw[HW1.out]
  refine(HC2.out _ HB0.out.size HD0.out HI0.out).mono ?_
  rintro e w1 ⟨v',rfl,hds,hb1⟩
  obtain⟨q',x',c',ts',p',cp',rfl,_⟩:=id hds
  obtain⟨n',hn'⟩:∃n',D'.length=n':=⟨_,rfl⟩
  simp only at hds ⊢
  rw[hn']at hds ⊢
  have HDS1:=Lib.hid hds
  have HB1:=Lib.hid (HB0.out.trans (hb1.mono HB0.out.size))
  have HR1:=Lib.hid ((hb1.block _ (Array.getElem?_eq_some_iff.1 HR0.out).1).trans HR0.out)
  have I0:=Lib.hid (show (Tryz.prog.info? 34).map (·.size)=some (#[.int .i64 (m'.half:Int),.slice q' x' c',.int .i64 (m'.taken:Int),.int .i64 (m'.gen:Int),.slice p' n' cp']:Array Value).size from i34)
  have I1:=Lib.hid (show (zero34:Array Value).size=(#[.int .i64 (m'.half:Int),.slice q' x' c',.int .i64 (m'.taken:Int),.int .i64 (m'.gen:Int),.slice p' n' cp']:Array Value).size from rfl)
  have I2:=Lib.hid (show (#[.int .i64 (m'.half:Int),.slice q' x' c',.int .i64 (m'.taken:Int),.int .i64 (m'.gen:Int),.slice p' n' cp']:Array Value).all (·.oneCell')=true by simp[Value.oneCell'])
  clear hds hn' hb1
  go_wp2_with (with_reducible refine wpList_put 34 (w.heap.size+1+1) _ _ rfl rfl HR1.out I0.out I1.out I2.out ?_)
  intro w9 hg hgr
  have HG:=Lib.hid hg
  have HB:=Lib.hid (below_put HB1.out hgr HB1.out.size (by omega))
  have HDS9:=Lib.hid (HDS1.out.put (by have:=HTW.out;omega) hgr (zero34_nostr HR1.out))
  clear hg hgr
  go_wp2
  refine bodyPost_ret (v:=.tuple #[.agg #[.int .i64 (m'.half:Int),.slice q' x' c',.int .i64 (m'.taken:Int),.int .i64 (m'.gen:Int),.slice p' n' cp'],.int .i64 z]) (res2 Tryz.results9 _ _ _ (w.heap.size+1+1) _ _ rfl rfl (ld34 HG.out)) rfl ?_
  exact⟨_,rfl,HDS9.out,HB.out⟩
 ·rw[hcp]at hW0
  have HW1:=Lib.hid hW0
  clear hW0
  simp only[if_true]
  obtain⟨r,hr⟩:∃r,dcompact ⟨h0,tk,g⟩ D=r:=⟨_,rfl⟩
  rw[hr]at HC1 ⊢
  obtain⟨⟨m',D'⟩,z⟩:=r
  clear hnl hpo hl h hn hll hr hm ha hcp hTw hS
  go_enter Tryz.func9,Tryz.ntmps9
  go_wp2_with fail
  rw[HW1.out]
  refine(HC1.out _ HB0.out.size HD0.out).mono ?_
  rintro e w1 ⟨v',rfl,hds,hb1⟩
  obtain⟨q',x',c',ts',p',cp',rfl,_⟩:=id hds
  obtain⟨n',hn'⟩:∃n',D'.length=n':=⟨_,rfl⟩
  simp only at hds ⊢
  rw[hn']at hds ⊢
  have HDS1:=Lib.hid hds
  have HB1:=Lib.hid (HB0.out.trans (hb1.mono HB0.out.size))
  have HR1:=Lib.hid ((hb1.block _ (Array.getElem?_eq_some_iff.1 HR0.out).1).trans HR0.out)
  have I0:=Lib.hid (show (Tryz.prog.info? 34).map (·.size)=some (#[.int .i64 (m'.half:Int),.slice q' x' c',.int .i64 (m'.taken:Int),.int .i64 (m'.gen:Int),.slice p' n' cp']:Array Value).size from i34)
  have I1:=Lib.hid (show (zero34:Array Value).size=(#[.int .i64 (m'.half:Int),.slice q' x' c',.int .i64 (m'.taken:Int),.int .i64 (m'.gen:Int),.slice p' n' cp']:Array Value).size from rfl)
  have I2:=Lib.hid (show (#[.int .i64 (m'.half:Int),.slice q' x' c',.int .i64 (m'.taken:Int),.int .i64 (m'.gen:Int),.slice p' n' cp']:Array Value).all (·.oneCell')=true by simp[Value.oneCell'])
  clear hds hn' hb1
  go_wp2_with (with_reducible refine wpList_put 34 (w.heap.size+1+1) _ _ rfl rfl HR1.out I0.out I1.out I2.out ?_)
  intro w9 hg hgr
  have HG:=Lib.hid hg
  have HB:=Lib.hid (below_put HB1.out hgr HB1.out.size (by omega))
  have HDS9:=Lib.hid (HDS1.out.put (by have:=HTW.out;omega) hgr (zero34_nostr HR1.out))
  clear hg hgr
  go_wp2
  refine bodyPost_ret (v:=.tuple #[.agg #[.int .i64 (m'.half:Int),.slice q' x' c',.int .i64 (m'.taken:Int),.int .i64 (m'.gen:Int),.slice p' n' cp'],.int .i64 z]) (res2 Tryz.results9 _ _ _ (w.heap.size+1+1) _ _ rfl rfl (ld34 HG.out)) rfl ?_
  exact⟨_,rfl,HDS9.out,HB.out⟩
end Go.Proofs.YtlogjpmdfimgdaaGreatDoor
namespace Go.Proofs.YtlogjpmdfimgdaaGreatDoor
open Go Go.RowKit Go.Own Go.Own.Fr Go.Maps Go.WideMaps
structure Twin{Sg:Type}(good:Sg→Prop)(tx:Sg→List (List Nat))(apE:Sg→List Nat→Int)(apS:Sg→List Nat→Sg)(anE:Sg→List (List Nat)→Int)(anS:Sg→List (List Nat)→Sg)(al:Sg→Md→Prop):Prop where
 hlf:∀s m,good s→al s m→m.taken≤m.half∧m.half≤100000
 app:∀s m t,good s→al s m→(∀c∈t,c<256)→apE s t=((m.app t.length).2:Int)∧al (apS s t) (m.app t.length).1∧(apE s t=0→tx (apS s t)=tx s++[t])∧(apE s t≠0→tx (apS s t)=tx s)
 anew:∀s m ts,good s→al s m→m.gen≤1000→(∀t∈ts,∀c∈t,c<256)→ts≠[]→anE s ts=((m.anew (ts.map List.length)).2:Int)∧al (anS s ts) (m.anew (ts.map List.length)).1∧(anE s ts=0→tx (anS s ts)=ts)∧(anE s ts≠0→tx (anS s ts)=tx s)
theorem Md.app_gen(m:Md)(n:Nat):(m.app n).1.gen≤m.gen+1:=by
 unfold Md.app
 split
 ·exact Nat.le_succ _
 ·show max m.gen 1≤_;omega
theorem Md.anew_gen(m:Md)(l:List Nat):(m.anew l).1.gen≤m.gen+1:=by
 unfold Md.anew
 split
 ·exact Nat.le_succ _
 ·exact Nat.le_refl _
theorem Md.anew_code(m:Md)(l:List Nat):(m.anew l).2=0∨m.anew l=(m,6):=by
 unfold Md.anew
 split
 ·exact .inr rfl
 ·exact .inl rfl
theorem tx_eq{g:ByteArray→Option A}{D:List Pr}(h:Pairs g D):txsB g (D.map Prod.fst)=dTxs D:=by
 have hk:∀E:List Pr,(∀x∈E,x∈D)→txK g (E.map Prod.fst)=prt (trA (E.map fun x=>(x.1,some (ofV x.2)))):=fun E hE=>by
  unfold txK
  rw[List.map_map]
  congr 2
  exact List.map_congr_left fun x hx=>by
   show (x.1,g x.1)=_
   rw[(h.vals x (hE x hx)).1]
 unfold txsB dTxs
 by_cases h0:D=[]
 ·subst h0
  rw[if_pos (show List.map Prod.fst ([]:List Pr)=[]from rfl),if_pos rfl]
  rfl
 ·rw[if_neg (by simpa using h0),if_neg h0,List.length_map]
  refine List.map_congr_left fun k _=>?_
  unfold dTx chunkK
  rw[←List.map_drop,←List.map_take]
  exact hk _ fun x hx=>List.mem_of_mem_drop (List.mem_of_mem_take hx)
theorem dTxs_ne(D:List Pr):dTxs D≠[]:=by
 unfold dTxs
 split
 ·simp
 ·rename_i h
  have:0<D.length:=List.length_pos_iff.2 h
  intro e
  have e2:=congrArg List.length e
  simp only[List.length_map,List.length_range,List.length_nil]at e2
  omega
theorem bys_lens(l:List ByteArray):(l.map bys).map List.length=l.map ByteArray.size:=by
 rw[List.map_map]
 exact List.map_congr_left fun s _=>bys_length s
theorem openF_many:∀(L:List (List Ch)) (g:ByteArray→Option A),(∀cs∈L,trOf (bys (prt (trA cs)))=some cs)→openF g (L.map fun cs=>bys (prt (trA cs)))=some (L.flatten.foldl chF g)
 | [],g,_=>rfl
 |cs :: r,g,h=>by
  show openF g (bys (prt (trA cs)) :: r.map fun cs=>bys (prt (trA cs)))=_
  unfold openF
  rw[h cs (by simp)]
  show openF (cs.foldl chF g) _=_
  rw[openF_many r _ fun c hc=>h c (by simp[hc]),List.flatten_cons,List.foldl_append]
theorem fold_pairs:∀(E:List Pr) (g:ByteArray→Option A) (k:ByteArray),(E.map fun x=>((x.1,some (ofV x.2)):Ch)).foldl chF g k=(if ∃x∈E,x.1=k then (E.map fun x=>((x.1,some (ofV x.2)):Ch)).foldl chF (fun _=>none) k else g k)
 | [],g,k=>by simp
 |x :: E,g,k=>by
  simp only[List.map_cons,List.foldl_cons]
  rw[fold_pairs E (chF g _) k,fold_pairs E (chF (fun _=>none) _) k]
  by_cases h1:∃y∈E,y.1=k
  ·rw[if_pos h1,if_pos h1]
   obtain⟨y,hy,e⟩:=h1
   rw[if_pos ⟨y,by simp[hy],e⟩]
  ·rw[if_neg h1,if_neg h1]
   unfold chF
   by_cases h2:k=x.1
   ·rw[if_pos h2,if_pos h2,if_pos ⟨x,by simp,h2.symm⟩]
   ·rw[if_neg h2,if_neg h2]
    rw[if_neg]
    rintro⟨y,hy,e⟩
    rcases List.mem_cons.1 hy with rfl | hy
    ·exact h2 e.symm
    ·exact h1 ⟨y,hy,e⟩
theorem fold_vals{g:ByteArray→Option A}:∀(E:List Pr),(∀x∈E,g x.1=some (ofV x.2))→∀k,(∃x∈E,x.1=k)→(E.map fun x=>((x.1,some (ofV x.2)):Ch)).foldl chF (fun _=>none) k=g k
 | [],_,k,h=>by obtain⟨x,hx,_⟩:=h;simp at hx
 |x :: E,hv,k,h=>by
  simp only[List.map_cons,List.foldl_cons]
  rw[fold_pairs E (chF (fun _=>none) _) k]
  by_cases h1:∃y∈E,y.1=k
  ·rw[if_pos h1]
   exact fold_vals E (fun y hy=>hv y (by simp[hy])) k h1
  ·rw[if_neg h1]
   obtain⟨y,hy,e⟩:=h
   rcases List.mem_cons.1 hy with rfl | hy
   ·unfold chF
    rw[if_pos e.symm,←e]
    exact(hv y (by simp)).symm
   ·exact absurd ⟨y,hy,e⟩ h1
theorem open_pairs{g:ByteArray→Option A}{D:List Pr}(h:Pairs g D):(D.map fun x=>((x.1,some (ofV x.2)):Ch)).foldl chF (fun _=>none)=g:=by
 funext k
 by_cases hk:∃x∈D,x.1=k
 ·exact fold_vals D (fun x hx=>(h.vals x hx).1) k hk
 ·rw[fold_pairs,if_neg hk]
  cases hg:g k with
  |none=>rfl
  |some a =>
   have:=(h.keys.2 k).2 ⟨by rw[hg];rfl,rfl⟩
   obtain⟨x,hx,e⟩:=List.mem_map.1 this
   exact absurd ⟨x,hx,e⟩ hk
theorem chunks_flat(D:List Pr):((List.range ((D.length+15)/16)).map fun k=>(D.drop (k*16)).take 16).flatten=D:=by
 have key:∀n,((List.range n).map fun k=>(D.drop (k*16)).take 16).flatten=D.take (n*16):=by
  intro n
  induction n with
  |zero=>simp
  |succ n ih =>
   rw[List.range_succ,List.map_append,List.flatten_append,ih,List.map_cons,List.map_nil,List.flatten_cons,List.flatten_nil,List.append_nil,show (n+1)*16=n*16+16 by omega,List.take_add]
 rw[key,List.take_of_length_le (by omega)]
theorem open_anew{g:ByteArray→Option A}{D:List Pr}(h:Pairs g D)(hp:∀x∈D,PrOk x)(ho:∀x∈D,okA (ofV x.2)):openF (fun _=>none) ((dTxs D).map bys)=some g:=by
 have hc:∀E:List Pr,(∀x∈E,x∈D)→E.length≤255→trOf (bys (prt (trA (E.map fun x=>((x.1,some (ofV x.2)):Ch)))))=some (E.map fun x=>((x.1,some (ofV x.2)):Ch)):=fun E hE hl=>by
  refine trOf_prt (er_trA_zero (by rw[List.length_map];exact hl) fun c hc=>?_) fun c hc a ha=>?_
  ·obtain⟨x,hx,rfl⟩:=List.mem_map.1 hc
   exact⟨(hp x (hE x hx)).1,fun a ha=>by rw[←Option.some.inj ha];exact(hp x (hE x hx)).2.2.1⟩
  ·obtain⟨x,hx,rfl⟩:=List.mem_map.1 hc
   rw[←Option.some.inj ha];exact ho x (hE x hx)
 unfold dTxs
 split
 ·rename_i h0
  subst h0
  have:=openF_many [[]] (fun _=>none) (fun cs hcs=>by rw[List.mem_singleton.1 hcs];exact hc [] (by simp) (by simp))
  refine(this).trans ?_
  rw[←open_pairs h]
  rfl
 ·rw[List.map_map]
  have e:(List.range ((D.length+15)/16)).map (bys ∘ dTx D)=((List.range ((D.length+15)/16)).map fun k=>((D.drop (k*16)).take 16).map fun x=>((x.1,some (ofV x.2)):Ch)).map fun cs=>bys (prt (trA cs)):=by
   rw[List.map_map];rfl
  rw[e,openF_many _ _ fun cs hcs=>?_]
  ·congr 1
   have e2:((List.range ((D.length+15)/16)).map fun k=>((D.drop (k*16)).take 16).map fun x=>((x.1,some (ofV x.2)):Ch)).flatten=D.map fun x=>((x.1,some (ofV x.2)):Ch):=by
    conv=>rhs;rw[←chunks_flat D]
    rw[List.map_flatten,List.map_map]
    rfl
   rw[e2]
   exact open_pairs h
  ·obtain⟨k,_,rfl⟩:=List.mem_map.1 hcs
   exact hc _ (fun x hx=>List.mem_of_mem_drop (List.mem_of_mem_take hx)) (by rw[List.length_take];omega)
section
variable{Sg:Type}{base:Nat}{JS:(Nat→Prop)→World→Addr→Sg→Prop}{good:Sg→Prop}{tx:Sg→List (List Nat)}{apE:Sg→List Nat→Int}{apS:Sg→List Nat→Sg}{anE:Sg→List (List Nat)→Int}{anS:Sg→List (List Nat)→Sg}{al:Sg→Md→Prop}
structure PI(good:Sg→Prop)(tx:Sg→List (List Nat))(al:Sg→Md→Prop)(i:Nat)(s:Sg)(g:ByteArray→Option A)(m:Md)(D:List Pr):Prop where
 good:good s
 small:Small g
 fine:Fine g
 al:al s m
 pairs:Pairs g D
 opens:openF (fun _=>none) (tx s)=some g
 okv:∀k a,g k=some a→okA a
 gen:m.gen≤i
 len:D.length≤30*i
theorem PI.prOk{i:Nat}{s:Sg}{g:ByteArray→Option A}{m:Md}{D:List Pr}(h:PI good tx al i s g m D):∀x∈D,PrOk x:=fun x hx=>by
 obtain⟨h1,h2⟩:=h.pairs.vals x hx
 exact⟨h.small.key x.1 (by rw[h1];rfl),fewT_of x.2 1 h2,h.fine x.1 _ h1,sz_two x.2 h2⟩
theorem PI.ok(HT:Twin good tx apE apS anE anS al){i:Nat}(hi:i≤1000){s:Sg}{g:ByteArray→Option A}{m:Md}{D:List Pr}(h:PI good tx al i s g m D):m.ok:=by
 obtain⟨h1,h2⟩:=HT.hlf s m h.good h.al
 exact⟨h1,h2,by have:=h.gen;omega⟩
theorem okv_fold:∀(cs:List Ch) (g:ByteArray→Option A),(∀k a,g k=some a→okA a)→(∀c∈cs,∀a,c.2=some a→okA a)→∀k a,cs.foldl chF g k=some a→okA a
 | [],_,h,_=>h
 |c :: cs,g,h,hc=>okv_fold cs _ (fun k a ha=>by
   unfold chF at ha
   split at ha
   ·exact hc c (by simp) a ha
   ·exact h k a ha) fun c' h'=>hc c' (List.mem_cons_of_mem _ h')
theorem fold_len(l:List (ByteArray×V×Bool))(D:List Pr):(l.foldl layC D).length≤D.length+l.length:=foldl_length l D
theorem PI.step(HG:Goes good apE apS anE anS)(HT:Twin good tx apE apS anE anS al){i:Nat}(hi:i≤900){s s':Sg}{g g':ByteArray→Option A}{m:Md}{D:List Pr}(h:PI good tx al i s g m D)(a:Ac)(ha:OkA a)(ho:∀c∈a.l.map chV,∀x,c.2=some x→okA x){c:Int}(hs:StepR apE apS anE anS s g a c s' g') :
  c=(dact m D a).2∧PI good tx al (i+1) s' g' (dact m D a).1.1 (dact m D a).1.2:=by
 have hgen:=h.gen
 have hlen:=h.len
 rcases hs with⟨hcp,ks,hks,hc,rfl,rfl⟩ | ⟨hcp,hs⟩
 ·have hke:=hks.unique h.pairs.keys
  subst hke
  rw[tx_eq h.pairs]at hc ⊢
  obtain⟨t1,t2,t3,t4⟩:=HT.anew s m ((dTxs D).map bys) h.good h.al (by omega) (fun t ht=>by obtain⟨y,_,rfl⟩:=List.mem_map.1 ht;exact bys_lt y) (by simpa using dTxs_ne D)
  rw[bys_lens]at t1 t2
  have hgd:=(HG.an s ((dTxs D).map bys) h.good (fun t ht=>by obtain⟨y,_,rfl⟩:=List.mem_map.1 ht;exact bys_lt y)).2
  have hgn:=Md.anew_gen m ((dTxs D).map ByteArray.size)
  unfold dact dcompact
  rw[if_pos hcp]
  rcases Md.anew_code m ((dTxs D).map ByteArray.size)with h0 | h6
  ·rw[if_pos h0]
   rw[h0]at t1
   have hx:anE s ((dTxs D).map bys)=0:=t1
   have e1:anewR (anE s ((dTxs D).map bys)) g g=(0,g):=by unfold anewR;rw[if_pos hx]
   rw[e1]at hc ⊢
   exact⟨hc,hgd,h.small,h.fine,t2,h.pairs,by rw[t3 hx];exact open_anew h.pairs h.prOk (fun x hx=>h.okv x.1 _ (h.pairs.vals x hx).1),h.okv,Nat.le_trans hgn (by omega),by simp only;omega⟩
  ·rw[h6]at t1 t2
   have hx:anE s ((dTxs D).map bys)=6:=t1
   rw[h6,if_neg (by simp)]
   have e1:anewR (anE s ((dTxs D).map bys)) g g=(6,g):=by unfold anewR;rw[hx,if_neg (by decide),if_neg (by decide)]
   rw[e1]at hc ⊢
   exact⟨hc,hgd,h.small,h.fine,t2,h.pairs,by rw[t4 (by rw[hx];decide)];exact h.opens,h.okv,by simp only;omega,by simp only;omega⟩
 ·unfold dact dcommit
  rw[if_neg (by rw[hcp];simp)]
  obtain⟨l30,hokc⟩:=ha
  rcases hs with⟨h1,h2,rfl,rfl⟩ | ⟨he,hs⟩
  ·rw[if_pos h1]
   exact⟨h2,h.good,h.small,h.fine,h.al,h.pairs,h.opens,h.okv,by simp only;omega,by simp only;omega⟩
  ·rw[if_neg (by rw[he];simp)]
   obtain⟨t1,t2,t3,t4⟩:=HT.app s m (bys (prt (trA (a.l.map chV)))) h.good h.al (bys_lt _)
   rw[bys_length]at t1 t2
   have hgp:=(HG.ap s (bys (prt (trA (a.l.map chV)))) h.good (bys_lt _)).2
   have hga:=Md.app_gen m (prt (trA (a.l.map chV))).size
   have hpr:=h.pairs.apply a.l fun c hc=>(hokc c hc).2.1
   have hsm:Small ((a.l.map chV).foldl chF g):=Small.fold _ g h.small fun c hc=>⟨((er_trA he).2 c hc).1,szs_acts a.l hokc c hc⟩
   have hfn:Fine ((a.l.map chV).foldl chF g):=Fine.fold _ g h.fine fun c hc=>((er_trA he).2 c hc).2
   have hov:=okv_fold (a.l.map chV) g h.okv ho
   have hpo:=fold_ok h.prOk hokc he
   have hlf:=fold_len a.l D
   have htr:=trOf_prt he ho
   rcases hs with⟨hx,rfl,rfl,rfl⟩ | ⟨hx,ks,hks,hc,rfl,rfl⟩ | ⟨hx,hx2,_⟩
   ·rw[hx]at t1
    have h0:(m.app (prt (trA (a.l.map chV))).size).2=0:=by omega
    rw[if_pos h0]
    refine⟨rfl,hgp,hsm,hfn,t2,hpr,?_,hov,Nat.le_trans hga (by omega),by simp only;omega⟩
    rw[t3 hx,openF_snoc,h.opens,htr]
    rfl
   ·rw[hx]at t1
    have h6:(m.app (prt (trA (a.l.map chV))).size).2=6:=by omega
    have hm6:m.app (prt (trA (a.l.map chV))).size=(m,6):=by
     rcases Md.app_cases m (prt (trA (a.l.map chV))).size with e | e
     ·rw[e]at h6;cases h6
     ·exact e
    rw[if_neg (by rw[h6];decide)]
    rw[hm6]at t2
    have hke:=hks.unique hpr.keys
    subst hke
    rw[tx_eq hpr]at hc ⊢
    obtain⟨u1,u2,u3,u4⟩:=HT.anew (apS s (bys (prt (trA (a.l.map chV))))) m ((dTxs (a.l.foldl layC D)).map bys) hgp t2 (by omega) (fun t ht=>by obtain⟨y,_,rfl⟩:=List.mem_map.1 ht;exact bys_lt y) (by simpa using dTxs_ne _)
    rw[bys_lens]at u1 u2
    have hgd:=(HG.an (apS s (bys (prt (trA (a.l.map chV))))) ((dTxs (a.l.foldl layC D)).map bys) hgp (fun t ht=>by obtain⟨y,_,rfl⟩:=List.mem_map.1 ht;exact bys_lt y)).2
    have hgn:=Md.anew_gen m ((dTxs (a.l.foldl layC D)).map ByteArray.size)
    have htxs:=t4 (by rw[hx];decide)
    obtain⟨S1,hS1⟩:∃S1,apS s (bys (prt (trA (a.l.map chV))))=S1:=⟨_,rfl⟩
    rw[hS1]at hc u1 u2 u3 u4 hgd htxs ⊢
    rcases Md.anew_code m ((dTxs (a.l.foldl layC D)).map ByteArray.size)with h0 | h6'
    ·rw[if_pos h0]
     rw[h0]at u1
     have hx0:anE S1 ((dTxs (a.l.foldl layC D)).map bys)=0:=u1
     have e1:anewR (anE S1 ((dTxs (a.l.foldl layC D)).map bys)) g ((a.l.map chV).foldl chF g)=(0,(a.l.map chV).foldl chF g):=by unfold anewR;rw[if_pos hx0]
     rw[e1]at hc ⊢
     exact⟨hc,hgd,hsm,hfn,u2,hpr,by rw[u3 hx0];exact open_anew hpr hpo (fun x hx=>hov x.1 _ (hpr.vals x hx).1),hov,Nat.le_trans hgn (by omega),by simp only;omega⟩
    ·rw[h6']at u1 u2
     have hx6:anE S1 ((dTxs (a.l.foldl layC D)).map bys)=6:=u1
     rw[h6',if_neg (by simp)]
     have e1:anewR (anE S1 ((dTxs (a.l.foldl layC D)).map bys)) g ((a.l.map chV).foldl chF g)=(6,g):=by unfold anewR;rw[hx6,if_neg (by decide),if_neg (by decide)]
     rw[e1]at hc ⊢
     exact⟨hc,hgd,h.small,h.fine,u2,h.pairs,by rw[u4 (by rw[hx6];decide),htxs];exact h.opens,h.okv,by simp only;omega,by simp only;omega⟩
   ·rcases(HG.ap s (bys (prt (trA (a.l.map chV)))) h.good (bys_lt _)).1 with e | e
    ·exact absurd e hx
    ·exact absurd e hx2
end
end Go.Proofs.YtlogjpmdfimgdaaGreatDoor
namespace Go.Proofs.YtlogjpmdfimgdaaGreatDoor
open Go Go.RowKit Go.Own Go.Own.Fr Go.Maps Go.WideMaps
theorem DS.same{N F:Nat→Prop}{T:Nat}{w w':World}{v:Value}{m:Md}{D:List Pr}(h:DS N T w v m D)(hz:w.heap.size≤w'.heap.size)(hk:∀k,k<w.heap.size→¬F k→w'.heap[k]?=w.heap[k]?)(hN:∀k,k<w.heap.size→N k→¬F k)(hT:∀k,k<T→¬F k):DS N T w' v m D:=by
 obtain⟨q,x,c,ts,p,cap,h1,h2,h3,h4,h5,h6⟩:=h
 refine⟨q,x,c,ts,p,cap,h1,?_,h3,?_,h5.up hz,h6.up hz⟩
 ·obtain⟨p',cap',e1,e2,e3⟩:=h2
  simp only[Value.slice.injEq]at e1
  obtain⟨rfl,e1n,rfl⟩:=e1
  refine⟨q,c,by rw[e1n],e2,fun j s hs=>?_⟩
  obtain⟨b,o,f1,f2,f3⟩:=e3 j s hs
  have hb:=h5 _ f1
  exact⟨b,o,f1,Nat.lt_of_lt_of_le f2 hz,by rw[World.cell?_of_block (w:=w) (hk b f2 (hN b f2 hb.1))];exact f3⟩
 ·obtain⟨p',cap',e1,e2,e3⟩:=h4
  simp only[Value.slice.injEq,true_and]at e1
  obtain⟨rfl,rfl⟩:=e1
  refine⟨p,cap,rfl,e2,fun j y hy=>?_⟩
  obtain⟨b,o,c0,c1,c2,c3,c4,f1,f2,f3,g0,g1,g2,g3,g4,g5,g6⟩:=e3 j y hy
  have hb:=h6 _ f1
  have hc:∀i,w'.cell? ⟨b,i,none⟩=w.cell? ⟨b,i,none⟩:=fun i=>World.cell?_of_block (w:=w) (hk b f2 (hN b f2 hb.1))
  exact⟨b,o,c0,c1,c2,c3,c4,f1,Nat.lt_of_lt_of_le f2 hz,f3,(hc _).trans g0,(hc _).trans g1,(hc _).trans g2,(hc _).trans g3,(hc _).trans g4,(hc _).trans g5,g6.keep (fun _ h _=>h) hz (fun k hkT hlt=>hk k hlt (hT k hkT))⟩
section
variable{Sg:Type}{base:Nat}{JS:(Nat→Prop)→World→Addr→Sg→Prop}{good:Sg→Prop}{tx:Sg→List (List Nat)}{apE:Sg→List Nat→Int}{apS:Sg→List Nat→Sg}{anE:Sg→List (List Nat)→Int}{anS:Sg→List (List Nat)→Sg}{al:Sg→Md→Prop}
theorem StoreAt.same(HJ:Jour base JS good tx apE apS anE anS){O S:Nat→Prop}{w w':World}{sb b n:Nat}{jp:Addr}{s:Sg}{g:ByteArray→Option A}(H:StoreAt base JS O S w sb jp b n s g)(hE:Ext w w')(hF:∀k,Ft O S sb b k→k<w.heap.size→w'.heap[k]?=w.heap[k]?)(hb:∀k,k<base→w'.heap[k]?=w.heap[k]?):StoreAt base JS O S w' sb jp b n s g :=
 {at_:=⟨Nat.lt_of_lt_of_le H.at_.1 hE.size,(hF sb (.inr (.inr (.inr rfl))) H.at_.1).trans H.at_.2⟩
  map:=H.map.same hE.size (hF b (.inr (.inr (.inl rfl))) H.map.lt) (fun k h hlt=>hF k (.inr (.inl h)) hlt)
  jour:=HJ.keep O w w' jp s H.jour hE (fun k hk=>hF k (.inl hk) (HJ.lt O w jp s H.jour k hk).2) hb
  osb:=H.osb
  ob:=H.ob
  os:=H.os
  ne:=H.ne
  ssb:=H.ssb
  bb:=H.bb
  bsb:=H.bsb
  bs:=H.bs }
structure StD(base:Nat)(JS:(Nat→Prop)→World→Addr→Sg→Prop)(O S:Nat→Prop)(bx sb:Nat)(jp:Addr)(b n:Nat)(W:World)(s:Sg)(g:ByteArray→Option A)(cs:Array Value)(m:Md)(D:List Pr):Prop where
 st:StoreAt base JS O S W sb jp b n s g
 lt:∀k,Ft O S sb b k→k<W.heap.size
 box:W.heap[bx]?=some (.cells cs 34 (0,0))
 nf:¬Ft O S sb b bx
 bb:base≤bx
 ds:DS (fun k=>¬Ft O S sb b k) base W (.agg cs) m D
 sz:base≤W.heap.size
theorem StD.from(HJ:Jour base JS good tx apE apS anE anS){O S:Nat→Prop}{bx sb b n:Nat}{jp:Addr}{W:World}{s:Sg}{g:ByteArray→Option A}{cs:Array Value}{m:Md}{D:List Pr}(h:StD base JS O S bx sb jp b n W s g cs m D):∀k,Ft O S sb b k→base≤k:=h.st.from HJ
theorem StD.below(HJ:Jour base JS good tx apE apS anE anS){O S:Nat→Prop}{bx sb b n:Nat}{jp:Addr}{W W':World}{s:Sg}{g:ByteArray→Option A}{cs:Array Value}{m:Md}{D:List Pr}(h:StD base JS O S bx sb jp b n W s g cs m D)(hB:Below W.heap.size W W'):StD base JS O S bx sb jp b n W' s g cs m D where
 st:=h.st.same HJ (ext_below hB) (fun k _ hlt=>hB.block k hlt) (fun k hk=>hB.block k (Nat.lt_of_lt_of_le hk h.sz))
 lt:=fun k hk=>Nat.lt_of_lt_of_le (h.lt k hk) hB.size
 box:=(hB.block bx (Array.getElem?_eq_some_iff.1 h.box).1).trans h.box
 nf:=h.nf
 bb:=h.bb
 ds:=h.ds.below h.sz hB
 sz:=Nat.le_trans h.sz hB.size
theorem StD.put(HJ:Jour base JS good tx apE apS anE anS){O S:Nat→Prop}{bx sb b n:Nat}{jp:Addr}{W W':World}{s:Sg}{g:ByteArray→Option A}{cs cs':Array Value}{m m':Md}{D D':List Pr}(h:StD base JS O S bx sb jp b n W s g cs m D)(hg:W.grownBy W' (some bx))(hbx:W'.heap[bx]?=some (.cells cs' 34 (0,0)))(hds:DS (fun k=>¬Ft O S sb b k) base W (.agg cs') m' D'):StD base JS O S bx sb jp b n W' s g cs' m' D' where
 st:=h.st.same HJ (ext_grown hg) (fun k hk hlt=>hg.block k hlt (fun e=>h.nf (by have:=Option.some.inj e;rw[←this];exact hk))) (fun k hk=>hg.block k (Nat.lt_of_lt_of_le hk h.sz) (fun e=>by have:=Option.some.inj e;have:=h.bb;omega))
 lt:=fun k hk=>Nat.lt_of_lt_of_le (h.lt k hk) hg.size
 box:=hbx
 nf:=h.nf
 bb:=h.bb
 ds:=hds.put h.bb hg (fun o s=>by
  obtain⟨q,x,c,ts,p,cap,e,_⟩:=h.ds
  obtain rfl:=Value.agg.inj e
  rw[cell_at h.box o]
  match o with
  |0=>simp
  |1=>simp
  |2=>simp
  |3=>simp
  |4=>simp
  |o+5=>simp)
 sz:=Nat.le_trans h.sz hg.size
theorem StD.does(HJ:Jour base JS good tx apE apS anE anS){O S:Nat→Prop}{bx sb b n:Nat}{jp:Addr}{W W':World}{s:Sg}{g:ByteArray→Option A}{cs:Array Value}{m:Md}{D:List Pr}(h:StD base JS O S bx sb jp b n W s g cs m D){M:Nat}{R:Int→Sg→(ByteArray→Option A)→Prop}{e:Ending}(hq:DoesQ base JS good sb jp (Ft O S sb b) M R W e W') :
  ∃O' S' b' n' c s' g',e=.returned (.int .i64 c)∧R c s' g'∧n'≤M∧StD base JS O' S' bx sb jp b' n' W' s' g' cs m D∧∀w0,Below base w0 W→Below base w0 W':=by
 obtain⟨O',S',b',n',c,s',g',rfl,hst,_,_,hR,hn,hc,hF⟩:=hq
 have hzW:=hc.1.size
 have hbl:∀w0,Below base w0 W→Below base w0 W':=fun w0 hb=>below_chg hb h.sz (h.from HJ) hc
 have hst2:=hst.below HJ (Nat.le_trans h.sz hzW) (Below.refl _ W')
 have hF2:∀k,Ft O' (fun k=>S' k∧k<W'.heap.size) sb b' k→Ft O S sb b k∨W.heap.size≤k:=fun k hk=>hF k (by
  rcases hk with hk | hk | hk | hk
  ·exact .inl hk
  ·exact .inr (.inl hk.1)
  ·exact .inr (.inr (.inl hk))
  ·exact .inr (.inr (.inr hk)))
 have hlb:=(Array.getElem?_eq_some_iff.1 h.box).1
 refine⟨O',_,b',n',c,s',g',rfl,hR,hn,⟨hst2,fun k hk=>hst.lt HJ k hk,(hc.2 bx hlb h.nf).trans h.box,fun hk=>?_,h.bb,?_,Nat.le_trans h.sz hzW⟩,hbl⟩
 ·rcases hF2 bx hk with hk | hk
  ·exact h.nf hk
  ·omega
 ·have hds:=h.ds.same (w':=W') hzW hc.2 (fun k _ hk=>hk) (fun k hk hf=>by have:=h.from HJ k hf;omega)
  obtain⟨q,x,c,ts,p,cap,h1,h2,h3,h4,h5,h6⟩:=h.ds
  obtain⟨q',x',c',ts',p',cap',h1',h2',h3',h4',_,_⟩:=hds
  have e:=h1.symm.trans h1'
  simp only[Value.agg.injEq,Array.mk.injEq,List.cons.injEq,Value.slice.injEq,and_true,true_and]at e
  obtain⟨⟨rfl,rfl,rfl⟩,rfl,rfl⟩:=e
  have hup:∀(q:Option Addr),SB (fun k=>¬Ft O S sb b k) W q→SB (fun k=>¬Ft O' (fun k=>S' k∧k<W'.heap.size) sb b' k) W' q:=fun q hq a ha=>⟨fun hk=>by
   rcases hF2 _ hk with hk | hk
   ·exact(hq a ha).1 hk
   ·have:=(hq a ha).2;omega,Nat.lt_of_lt_of_le (hq a ha).2 hzW⟩
  exact⟨q,x,c,ts',p,cap,h1',h2',h3',h4',hup q h5,hup p h6⟩
theorem StD.live{O S:Nat→Prop}{bx sb b n:Nat}{jp:Addr}{W w0:World}{s:Sg}{g:ByteArray→Option A}{cs:Array Value}{m:Md}{D:List Pr}{M i:Nat}(h:StD base JS O S bx sb jp b n W s g cs m D)(hp:PI good tx al i s g m D)(hn:n≤M)(hb:Below base w0 W):Live base JS good sb jp M w0 W s g :=
 ⟨⟨O,S,b,n,h.st,hn⟩,hp.good,hp.small,hp.fine,hb⟩
theorem StD.again(HJ:Jour base JS good tx apE apS anE anS){O S:Nat→Prop}{bx sb b n:Nat}{jp:Addr}{W W':World}{s:Sg}{g:ByteArray→Option A}{cs:Array Value}{m:Md}{D:List Pr}(h:StD base JS O S bx sb jp b n W s g cs m D){e:Ending}(hq:AgainQ base JS O s g W e W') :
  ∃O' S' sb' b' n' jp',e=.returned (.pointer (some ⟨sb',0,none⟩))∧n'≤765000∧StD base JS O' S' bx sb' jp' b' n' W' s g cs m D∧Below W.heap.size W W':=by
 obtain⟨O',S',sb',b',n',jp',rfl,hn,hst,hB,hF⟩:=hq
 have hst2:=hst.below HJ (Nat.le_trans h.sz hB.size) (Below.refl _ W')
 have hF2:∀k,Ft O' (fun k=>S' k∧k<W'.heap.size) sb' b' k→Ft O S sb b k∨W.heap.size≤k:=fun k hk=>by
  have:Ft O' S' sb' b' k:=by
   rcases hk with hk | hk | hk | hk
   ·exact .inl hk
   ·exact .inr (.inl hk.1)
   ·exact .inr (.inr (.inl hk))
   ·exact .inr (.inr (.inr hk))
  rcases hF k this with h | h
  ·exact .inl (.inl h)
  ·exact .inr h
 have hlb:=(Array.getElem?_eq_some_iff.1 h.box).1
 refine⟨O',_,sb',b',n',jp',rfl,hn,⟨hst2,fun k hk=>hst.lt HJ k hk,(hB.block bx hlb).trans h.box,fun hk=>?_,h.bb,?_,Nat.le_trans h.sz hB.size⟩,hB⟩
 ·rcases hF2 bx hk with hk | hk
  ·exact h.nf hk
  ·omega
 ·obtain⟨q,x,c,ts,p,cap,h1,h2,h3,h4,h5,h6⟩:=h.ds
  have hup:∀(q:Option Addr),SB (fun k=>¬Ft O S sb b k) W q→SB (fun k=>¬Ft O' (fun k=>S' k∧k<W'.heap.size) sb' b' k) W' q:=fun q hq a ha=>⟨fun hk=>by
   rcases hF2 _ hk with hk | hk
   ·exact(hq a ha).1 hk
   ·have:=(hq a ha).2;omega,Nat.lt_of_lt_of_le (hq a ha).2 hB.size⟩
  exact⟨q,x,c,ts,p,cap,h1,h2.below hB,h3,h4.below h.sz hB,hup q h5,hup p h6⟩
end
end Go.Proofs.YtlogjpmdfimgdaaGreatDoor
namespace Go.Proofs.YtlogjpmdfimgdaaGreatDoor
open Go Go.RowKit Go.Own Go.Own.Fr Go.Maps Go.WideMaps
section
variable{ρ:Operand→Value}{W:World}{dst:Option Tmp}{ty:TypeId}{pos:String}{after:Array Edge}{guard:Option (Nat×Bool)}{x y z u:Operand}
theorem exec_ix22{p:Option Addr}{b o n c k:Nat}(h1:ρ x=.slice p n c)(hp:p=some ⟨b,o,none⟩)(h2:ρ y=.int .i64 (k:Int))(hk:k<n):(execOp ρ { dst,op:=.indexAddr 22 x y,type:=ty,pos,after,guard }).run Tryz.prog W=.ok (.value (.pointer (some ⟨b,o+k*5,none⟩))) W:=by
 subst hp
 have hn:(k:Int)<(n:Int):=by omega
 simp[execOp,h1,h2,go_sem,hn]
theorem exec_ext{a b r:Value}(i:Nat)(h1:ρ x=.tuple #[a,b])(hi:(#[a,b]:Array Value)[i]?=some r):(execOp ρ { dst,op:=.extract x i,type:=ty,pos,after,guard }).run Tryz.prog W=.ok (.value r) W:=by
 simp[execOp,h1,go_sem,hi]
theorem exec_new34:(execOp ρ { dst,op:=.alloc 34,type:=ty,pos,after,guard }).run Tryz.prog W=.ok (.value (.pointer (some ⟨W.heap.size,0,none⟩))) (W.alloc (.cells #[.int .i64 0,.slice none 0 0,.int .i64 0,.int .i64 0,.slice none 0 0] 34)):=by
 simp[execOp,go_sem]
theorem exec_neq3{a:Int}(h1:ρ x=.int .i64 a)(h2:ρ y=.int .i64 a):(execOp ρ { dst,op:=.binOp .neq 3 x y 3,type:=ty,pos,after,guard }).run Tryz.prog W=.ok (.value (.bool false)) W:=by
 simp[execOp,h1,h2,go_sem]
theorem exec_not4{b:Bool}(h1:ρ x=.bool b):(execOp ρ { dst,op:=.unOp .not 4 x,type:=ty,pos,after,guard }).run Tryz.prog W=.ok (.value (.bool (!b))) W:=by
 simp[execOp,h1,go_sem]
theorem exec_pickF{v:Value}(h1:ρ x=.bool false)(h3:ρ z=v):(execOp ρ { dst,op:=.pick x y z,type:=ty,pos,after,guard }).run Tryz.prog W=.ok (.value v) W:=by
 simp[execOp,h1,h3,go_sem]
theorem exec_fa34{b:Nat}(h1:ρ x=.pointer (some ⟨b,0,none⟩)):(execOp ρ { dst,op:=.fieldAddr 34 x 1,type:=ty,pos,after,guard }).run Tryz.prog W=.ok (.value (.pointer (some ⟨b,4,none⟩))) W:=by
 simp[execOp,h1,go_sem]
end
theorem ld43{W:World}{b o:Nat}{c0 c1 c2 c3 c4:Value}(h0:W.cell? ⟨b,o,none⟩=some c0)(h1:W.cell? ⟨b,o+1,none⟩=some c1)(h2:W.cell? ⟨b,o+2,none⟩=some c2)(h3:W.cell? ⟨b,o+3,none⟩=some c3)(h4:W.cell? ⟨b,o+4,none⟩=some c4) :
  (Instr.loadAt 43 (.pointer (some ⟨b,o,none⟩))).run Tryz.prog W=.ok (.agg #[c0,c1,c2,c3,c4]) W:=by
 simp[Instr.loadAt,go_sem,h0,h1,h2,h3,h4]
theorem ld34a{W:World}{b:Nat}{x y z u v:Value}(h:W.heap[b]?=some (.cells #[x,y,z,u,v] 34 (0,0))):(Instr.loadAt 34 (.pointer (some ⟨b,0,none⟩))).run Tryz.prog W=.ok (.agg #[x,y,z,u,v]) W :=
 (ld_cells (P:=Tryz.prog) (T:=34) W [x,y,z,u,v] (by kernel_rfl) (by kernel_rfl) h).1
theorem ld32{W:World}{b o:Nat}{v:Value}(h:W.cell? ⟨b,o,none⟩=some v):(Instr.loadAt 32 (.pointer (some ⟨b,o,none⟩))).run Tryz.prog W=.ok v W:=by
 simp[Instr.loadAt,go_sem,h]
def PT12(N:Nat→Prop)(base B:Nat)(cs:Array Value)(p:Option Addr)(n cap j q qo:Nat)(av:Value)(m':Md)(D':List Pr)(z:Int)(ph:Bool)(i:Nat)(v:Value)(W:World):Prop :=
 match i with
 |0=>v=.agg cs
 |1=>v=.slice p n cap
 |2=>v=.int .i64 (j:Int)
 |3=>v=.pointer (some ⟨q,qo+j*5,none⟩)
 |4=>v=av
 |5=>∃v',v=.tuple #[v',.int .i64 z]∧DS N base W v' m' D'∧base≤W.heap.size
 |6=>∃v',v=.tuple #[v',.int .i64 z]∧DS N base W v' m' D'∧base≤W.heap.size
 |7=>DS N base W v m' D'∧base≤W.heap.size
 |8=>v=.int .i64 z
 |_=>∃bw,v=.pointer (some ⟨bw,0,none⟩)∧B≤bw∧base≤W.heap.size∧if ph=true then ∃cs',W.heap[bw]?=some (.cells cs' 34 (0,0))∧DS N base W (.agg cs') m' D' else W.heap[bw]?=some (.cells #[.int .i64 0,.slice none 0 0,.int .i64 0,.int .i64 0,.slice none 0 0] 34 (0,0))
theorem PT12.last{N:Nat→Prop}{base B:Nat}{cs:Array Value}{p:Option Addr}{n cap j q qo:Nat}{av:Value}{m':Md}{D':List Pr}{z:Int}{ph:Bool}{i:Nat}{v:Value}{W W':World}(h:PT12 N base B cs p n cap j q qo av m' D' z ph i v W)(hB:Below W.heap.size W W'):PT12 N base B cs p n cap j q qo av m' D' z ph i v W':=by
 match i,h with
 |0,h=>exact h
 |1,h=>exact h
 |2,h=>exact h
 |3,h=>exact h
 |4,h=>exact h
 |5,⟨v',h1,h2,h3⟩=>exact⟨v',h1,h2.below h3 hB,Nat.le_trans h3 hB.size⟩
 |6,⟨v',h1,h2,h3⟩=>exact⟨v',h1,h2.below h3 hB,Nat.le_trans h3 hB.size⟩
 |7,⟨h2,h3⟩=>exact⟨h2.below h3 hB,Nat.le_trans h3 hB.size⟩
 |8,h=>exact h
 |i+9,⟨bw,h1,h2,h3,h4⟩ =>
  refine⟨bw,h1,h2,Nat.le_trans h3 hB.size,?_⟩
  cases ph with
  |false =>
   rw[if_neg (by decide)]at h4 ⊢
   exact(hB.block bw (Array.getElem?_eq_some_iff.1 h4).1).trans h4
  |true =>
   rw[if_pos rfl]at h4 ⊢
   obtain⟨cs',h5,h6⟩:=h4
   exact⟨cs',(hB.block bw (Array.getElem?_eq_some_iff.1 h5).1).trans h5,h6.below h3 hB⟩
theorem zs34{W:World}{bw:Nat}(hz:W.heap[bw]?=some (.cells #[.int .i64 0,.slice none 0 0,.int .i64 0,.int .i64 0,.slice none 0 0] 34 (0,0))):∀(o:Nat) (s:ByteArray),W.cell? ⟨bw,o,none⟩≠some (.string s):=fun o s=>by
 rw[cell_at hz o]
 match o with
 |0=>simp
 |1=>simp
 |2=>simp
 |3=>simp
 |4=>simp
 |o+5=>simp
theorem PT12.stored{N:Nat→Prop}{base B:Nat}{cs:Array Value}{p:Option Addr}{n cap j q qo:Nat}{av:Value}{m':Md}{D':List Pr}{z:Int}{i:Nat}{v:Value}{W W':World}{bw:Nat}(h:PT12 N base B cs p n cap j q qo av m' D' z false i v W)(hi:i<9)(hg:W.grownBy W' (some bw))(hb:base≤bw)(hz:W.heap[bw]?=some (.cells #[.int .i64 0,.slice none 0 0,.int .i64 0,.int .i64 0,.slice none 0 0] 34 (0,0))):PT12 N base B cs p n cap j q qo av m' D' z true i v W':=by
 have hp:∀ {v':Value},DS N base W v' m' D'→DS N base W' v' m' D':=fun h=>h.put hb hg (fun o s=>by
  rw[cell_at hz o]
  match o with
  |0=>simp
  |1=>simp
  |2=>simp
  |3=>simp
  |4=>simp
  |o+5=>simp)
 match i,h with
 |0,h=>exact h
 |1,h=>exact h
 |2,h=>exact h
 |3,h=>exact h
 |4,h=>exact h
 |5,⟨v',h1,h2,h3⟩=>exact⟨v',h1,hp h2,Nat.le_trans h3 hg.size⟩
 |6,⟨v',h1,h2,h3⟩=>exact⟨v',h1,hp h2,Nat.le_trans h3 hg.size⟩
 |7,⟨h2,h3⟩=>exact⟨hp h2,Nat.le_trans h3 hg.size⟩
 |8,h=>exact h
 |i+9,_=>omega
end Go.Proofs.YtlogjpmdfimgdaaGreatDoor

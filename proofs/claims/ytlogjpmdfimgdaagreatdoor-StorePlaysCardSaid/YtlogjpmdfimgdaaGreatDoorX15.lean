/- The document's Anew of its journal (f46), by contract. No condition but the sizes. | The document's store: New (f8), Compact (f27), Commit (f28), an act (f9): by contract. No condition but the law's own guards. | The document's Compact and Commit of its store: by contract. No condition but the law's own guards. -/
import Derived.Test.YtlogjpmdfimgdaaGreatDoorX14
namespace Go.Proofs.YtlogjpmdfimgdaaGreatDoor
open Go Go.RowKit Go.Own Go.Own.Fr Go.Maps Go.WideMaps
theorem mgo_none{half N t:Nat}{l:List Nat}(h:65535<t∨half<N+dsecs t):mgo half N (t :: l)=none:=by rw[mgo,if_pos h]
theorem mgo_some{half N t:Nat}{l:List Nat}(h:¬(65535<t∨half<N+dsecs t)):mgo half N (t :: l)=mgo half (N+dsecs t) l:=by rw[mgo,if_neg h]
theorem drop_cons{α:Type}{l:List α}{k:Nat}{x:α}(h:l[k]?=some x):l.drop k=x :: l.drop (k+1):=by
 obtain⟨h1,h2⟩:=List.getElem?_eq_some_iff.1 h
 rw[List.drop_eq_getElem_cons h1,h2]
def StrP(base:Nat)(ts:List ByteArray)(v:Value)(W:World):Prop:=OwnS W base v ts
theorem StrP_last(base:Nat)(ts:List ByteArray):Lasts (StrP base ts):=OwnS_last base ts
set_option maxRecDepth 100000 in
set_option maxHeartbeats 4000000 in
theorem danewj_any(S:Nat→Prop)(m:Md)(v u:Value)(ts:List ByteArray)(w:World)(hm:m.ok)(h:DJ S w v m)(hS:∀k,w.heap.size≤k→S k)(hts:StrRow w u ts)(hlen:ts.length≤100000)(hsz:∀s∈ts,s.size≤140737488355328):Calls Tryz.prog 46 #[v,u] w (DAppQ S (m.anew (ts.map ByteArray.size)) w):=by
 obtain⟨q,x,c,tq,rfl,hrow,htl,hsb⟩:=h
 have HSB:=Lib.hid hsb
 have HS0:=Lib.hid hS
 have HTK:=Lib.hid (fun (s:ByteArray) (hs:s.size≤140737488355328) W=>dtakes_any s hs W)
 have HROW:=Lib.hid hrow
 have HTL:=Lib.hid htl
 have HTS:=Lib.hid hts
 have HSZ:=Lib.hid hsz
 obtain⟨up,uc,rfl,hucap,_⟩:=id hts
 obtain⟨h0,tk,g⟩:=m
 have hgb:=hm.gn
 have htb:=hm.tk
 have hhb:=hm.hf
 simp only at hgb htb hhb
 obtain⟨n,hn⟩:∃n,ts.length=n:=⟨_,rfl⟩
 have HN:=Lib.hid hn
 rw[hn]at hlen hucap HTS ⊢
 obtain⟨R,hR⟩:∃R,Md.anew ⟨h0,tk,g⟩ (ts.map ByteArray.size)=R:=⟨_,rfl⟩
 have HR:=Lib.hid hR
 rw[hR]
 have HA1:Hid (((w.alloc (.cells #[.int .i64 (h0:Int),.slice q x c,.int .i64 (tk:Int),.int .i64 (g:Int)] 31)).alloc (.cells #[.int .i64 0,.slice none 0 0,.int .i64 0,.int .i64 0] 31)).heap[w.heap.size]?=some (.cells #[.int .i64 (h0:Int),.slice q x c,.int .i64 (tk:Int),.int .i64 (g:Int)] 31 (0,0))):=Lib.hid (((below_new _ _).block w.heap.size (by simp)).trans (heap_alloc_new w _))
 have HA2:Hid (((w.alloc (.cells #[.int .i64 (h0:Int),.slice q x c,.int .i64 (tk:Int),.int .i64 (g:Int)] 31)).alloc (.cells #[.int .i64 0,.slice none 0 0,.int .i64 0,.int .i64 0] 31)).heap[w.heap.size+1]?=some (.cells #[.int .i64 0,.slice none 0 0,.int .i64 0,.int .i64 0] 31 (0,0))):=Lib.hid (by
  have:=heap_alloc_new (w.alloc (.cells #[.int .i64 (h0:Int),.slice q x c,.int .i64 (tk:Int),.int .i64 (g:Int)] 31)) (.cells #[.int .i64 0,.slice none 0 0,.int .i64 0,.int .i64 0] 31)
  rwa [World.size_alloc]at this)
 have HB0:Hid (Below w.heap.size w ((w.alloc (.cells #[.int .i64 (h0:Int),.slice q x c,.int .i64 (tk:Int),.int .i64 (g:Int)] 31)).alloc (.cells #[.int .i64 0,.slice none 0 0,.int .i64 0,.int .i64 0] 31))):=Lib.hid (((Below.refl _ w).alloc (Nat.le_refl _) _).alloc (by simp) _)
 have HZ0:Hid (((w.alloc (.cells #[.int .i64 (h0:Int),.slice q x c,.int .i64 (tk:Int),.int .i64 (g:Int)] 31)).alloc (.cells #[.int .i64 0,.slice none 0 0,.int .i64 0,.int .i64 0] 31)).heap.size=w.heap.size+1+1):=Lib.hid (by simp)
 clear hm hrow htl hts hsz hn hR hsb hS
 by_cases hn0:n=0
 ·subst hn0
  have hE:ts=[]:=List.eq_nil_of_length_eq_zero HN.out
  have HRN:Hid (mgo h0 0 ([({ data:=#[] }:ByteArray)].map ByteArray.size)=none→R=(⟨h0,tk,g⟩,6)):=Lib.hid fun e=>by
   have h:=HR.out
   rw[hE]at h
   rw[←h]
   unfold Md.anew dsome
   simp only[List.map_nil,if_true]
   rw[show mgo h0 0 [0]=none from e]
  have HRN2:Hid (∀N,mgo h0 0 ([({ data:=#[] }:ByteArray)].map ByteArray.size)=some N→R=(⟨h0,N,g+1⟩,0)):=Lib.hid fun N e=>by
   have h:=HR.out
   rw[hE]at h
   rw[←h]
   unfold Md.anew dsome
   simp only[List.map_nil,if_true]
   rw[show mgo h0 0 [0]=some N from e]
  have HLN:Hid ([({ data:=#[] }:ByteArray)].length=1):=Lib.hid rfl
  have HLS:Hid (∀s∈[({ data:=#[] }:ByteArray)],s.size≤140737488355328):=Lib.hid fun s hs=>by rw[List.mem_singleton.1 hs];decide
  have HRT:Hid (StrRow (((w.alloc (.cells #[.int .i64 (h0:Int),.slice q x c,.int .i64 (tk:Int),.int .i64 (g:Int)] 31)).alloc (.cells #[.int .i64 0,.slice none 0 0,.int .i64 0,.int .i64 0] 31)).alloc (.cells #[.string { data:=#[] }] 9)) (.slice (some ⟨w.heap.size+1+1,0,none⟩) 1 1) [({ data:=#[] }:ByteArray)]):=Lib.hid ⟨_,_,rfl,Nat.le_refl _,fun j s hs=>by
   have hj:j=0:=by have:=(List.getElem?_eq_some_iff.1 hs).1;simp at this;omega
   subst hj
   obtain rfl:({ data:=#[] }:ByteArray)=s:=by simpa using hs
   have hnew:=heap_alloc_new ((w.alloc (.cells #[.int .i64 (h0:Int),.slice q x c,.int .i64 (tk:Int),.int .i64 (g:Int)] 31)).alloc (.cells #[.int .i64 0,.slice none 0 0,.int .i64 0,.int .i64 0] 31)) (.cells #[.string { data:=#[] }] 9)
   rw[HZ0.out]at hnew
   exact⟨w.heap.size+1+1,0,rfl,(Array.getElem?_eq_some_iff.1 hnew).1,by rw[cell_at hnew];rfl⟩⟩
  replace HA1:=Lib.hid (((below_new ((w.alloc (.cells #[.int .i64 (h0:Int),.slice q x c,.int .i64 (tk:Int),.int .i64 (g:Int)] 31)).alloc (.cells #[.int .i64 0,.slice none 0 0,.int .i64 0,.int .i64 0] 31)) (.cells #[.string { data:=#[] }] 9)).block w.heap.size (Array.getElem?_eq_some_iff.1 HA1.out).1).trans HA1.out)
  replace HA2:=Lib.hid (((below_new ((w.alloc (.cells #[.int .i64 (h0:Int),.slice q x c,.int .i64 (tk:Int),.int .i64 (g:Int)] 31)).alloc (.cells #[.int .i64 0,.slice none 0 0,.int .i64 0,.int .i64 0] 31)) (.cells #[.string { data:=#[] }] 9)).block (w.heap.size+1) (Array.getElem?_eq_some_iff.1 HA2.out).1).trans HA2.out)
  replace HB0:=Lib.hid (HB0.out.trans ((below_new ((w.alloc (.cells #[.int .i64 (h0:Int),.slice q x c,.int .i64 (tk:Int),.int .i64 (g:Int)] 31)).alloc (.cells #[.int .i64 0,.slice none 0 0,.int .i64 0,.int .i64 0] 31)) (.cells #[.string { data:=#[] }] 9)).mono HB0.out.size))
  clear hE
  go_enter Tryz.func46,Tryz.ntmps46
  go_wp2
  obtain⟨wk,hwk⟩:∃wk,(((w.alloc (.cells #[.int .i64 (h0:Int),.slice q x c,.int .i64 (tk:Int),.int .i64 (g:Int)] 31)).alloc (.cells #[.int .i64 0,.slice none 0 0,.int .i64 0,.int .i64 0] 31)).alloc (.cells #[.string { data:=#[] }] 9))=wk:=⟨_,rfl⟩
  rw[hwk]at HRT HB0 HA1 HA2 ⊢
  clear hwk
  go_loopw [6,7] (fun nn i wr=>∃(j N:Nat),j≤1∧i=.int .i64 (j:Int)∧nn=.int .i64 (N:Int)∧N≤h0∧Hid (j≤N)∧Hid (mgo h0 N (([({ data:=#[] }:ByteArray)].map ByteArray.size).drop j)=mgo h0 0 ([({ data:=#[] }:ByteArray)].map ByteArray.size))∧Hid (Below wk.heap.size wk wr)) (fun _ i _=>1-(intOf i).toNat)
  case atStart=>exact⟨0,0,Nat.zero_le _,rfl,rfl,Nat.zero_le _,Lib.hid (Nat.le_refl _),Lib.hid rfl,Lib.hid (Below.refl _ _)⟩
  case round =>
   obtain⟨j,N,hj,rfl,rfl,hN,HJN,HM,HB⟩:=hrel
   have HA1':=Lib.hid ((HB.out.block w.heap.size (Array.getElem?_eq_some_iff.1 HA1.out).1).trans HA1.out)
   have HA2':=Lib.hid ((HB.out.block (w.heap.size+1) (Array.getElem?_eq_some_iff.1 HA2.out).1).trans HA2.out)
   have HBW:=Lib.hid (HB0.out.trans (HB.out.mono HB0.out.size))
   by_cases hlt:j<1
   ·have hlti:(j:Int)<((1:Nat):Int):=by omega
    obtain⟨s,hs⟩:∃s,[({ data:=#[] }:ByteArray)][j]?=some s:=⟨[({ data:=#[] }:ByteArray)][j]'(by have:=HLN.out;omega),List.getElem?_eq_getElem _⟩
    obtain⟨_,_,e',_,hrw⟩:=HRT.out.below HB.out
    simp only[Value.slice.injEq]at e'
    obtain⟨rfl,hnx,rfl⟩:=e'
    clear hnx
    obtain⟨bb,oo,hup,hbb,d0⟩:=hrw j s hs
    have HSS:=Lib.hid (HTK.out s (HLS.out s (List.mem_of_getElem? hs)) wr)
    have HDR:Hid (([({ data:=#[] }:ByteArray)].map ByteArray.size).drop j=s.size :: ([({ data:=#[] }:ByteArray)].map ByteArray.size).drop (j+1)):=Lib.hid (drop_cons (by rw[List.getElem?_map,hs];rfl))
    obtain⟨n1,hn1⟩:∃n1,s.size=n1:=⟨_,rfl⟩
    have HN1:=Lib.hid hn1
    have hn1b:n1≤140737488355328:=by rw[←hn1];exact HLS.out s (List.mem_of_getElem? hs)
    obtain⟨S,hS⟩:∃S,dsecs n1=S:=⟨_,rfl⟩
    have HSE:=Lib.hid hS
    have hSb:S≤140737488355328∧1≤S:=by rw[←hS];unfold dsecs;omega
    rw[hn1,hS]at HSS
    have hww:IntKind.i64.wrap ((N:Int)+(S:Int))=(N:Int)+(S:Int):=by rw[IntKind.wrap_i64];omega
    rw[hn1]at HDR
    simp only[Option.some.injEq,Addr.mk.injEq,and_true]at hup
    obtain⟨rfl,rfl⟩:=hup
    rw[Nat.zero_add]at d0
    clear hs hrw hn1 hS
    go_wp2_with fail
    refine HSS.out.mono ?_
    rintro e w3 ⟨rfl,rfl⟩
    have c0:=cell_at HA1'.out 0
    have c1:=cell_at HA1'.out 1
    have c2:=cell_at HA1'.out 2
    have c3:=cell_at HA1'.out 3
    simp only[List.getElem?_toArray,List.getElem?_cons_zero,List.getElem?_cons_succ]at c0 c1 c2 c3
    by_cases hb1:65535<n1
    ·have HRR:Hid (R=(⟨h0,tk,g⟩,6)):=Lib.hid (HRN.out (by rw[←HM.out,HDR.out];exact mgo_none (.inl hb1)))
     have hb1i:(65535:Int)<(s.size:Int):=by rw[HN1.out];omega
     have I0:=Lib.hid (show (Tryz.prog.info? 31).map (·.size)=some (#[.int .i64 (h0:Int),.slice q x c,.int .i64 (tk:Int),.int .i64 (g:Int)]:Array Value).size from i31)
     have I1:=Lib.hid (show (#[.int .i64 0,.slice none 0 0,.int .i64 0,.int .i64 0]:Array Value).size=(#[.int .i64 (h0:Int),.slice q x c,.int .i64 (tk:Int),.int .i64 (g:Int)]:Array Value).size from rfl)
     have I2:=Lib.hid (show (#[.int .i64 (h0:Int),.slice q x c,.int .i64 (tk:Int),.int .i64 (g:Int)]:Array Value).all (·.oneCell')=true by simp[Value.oneCell'])
     go_wp2_with (with_reducible refine wpList_put 31 (w.heap.size+1) _ _ rfl rfl HA2'.out I0.out I1.out I2.out ?_)
     intro w5 hg hgr
     have HG:=Lib.hid hg
     have HB5:=Lib.hid (below_put HBW.out hgr HBW.out.size (Nat.le_succ _))
     clear hg hgr c0 c1 c2 c3
     go_wp2
     refine bodyPost_ret (v:=.tuple #[.agg #[.int .i64 (h0:Int),.slice q x c,.int .i64 (tk:Int),.int .i64 (g:Int)],.int .i64 6]) (res2 Tryz.results46 _ _ _ (w.heap.size+1) _ _ rfl rfl (ld31 HG.out)) rfl ?_
     rw[HRR.out]
     exact⟨_,rfl,⟨q,x,c,tq,rfl,HROW.out.below HB5.out,HTL.out,HSB.out.up HB5.out.size⟩,HB5.out⟩
    ·have hb1i:¬(65535:Int)<(s.size:Int):=by rw[HN1.out];omega
     by_cases hb2:h0<N+S
     ·have HRR:Hid (R=(⟨h0,tk,g⟩,6)):=Lib.hid (HRN.out (by rw[←HM.out,HDR.out];exact mgo_none (.inr (by rw[HSE.out];exact hb2))))
      have hb2i:(h0:Int)<(N:Int)+(S:Int):=by omega
      have I0:=Lib.hid (show (Tryz.prog.info? 31).map (·.size)=some (#[.int .i64 (h0:Int),.slice q x c,.int .i64 (tk:Int),.int .i64 (g:Int)]:Array Value).size from i31)
      have I1:=Lib.hid (show (#[.int .i64 0,.slice none 0 0,.int .i64 0,.int .i64 0]:Array Value).size=(#[.int .i64 (h0:Int),.slice q x c,.int .i64 (tk:Int),.int .i64 (g:Int)]:Array Value).size from rfl)
      have I2:=Lib.hid (show (#[.int .i64 (h0:Int),.slice q x c,.int .i64 (tk:Int),.int .i64 (g:Int)]:Array Value).all (·.oneCell')=true by simp[Value.oneCell'])
      go_wp2_with (with_reducible refine wpList_put 31 (w.heap.size+1) _ _ rfl rfl HA2'.out I0.out I1.out I2.out ?_)
      intro w5 hg hgr
      have HG:=Lib.hid hg
      have HB5:=Lib.hid (below_put HBW.out hgr HBW.out.size (Nat.le_succ _))
      clear hg hgr c0 c1 c2 c3
      go_wp2
      refine bodyPost_ret (v:=.tuple #[.agg #[.int .i64 (h0:Int),.slice q x c,.int .i64 (tk:Int),.int .i64 (g:Int)],.int .i64 6]) (res2 Tryz.results46 _ _ _ (w.heap.size+1) _ _ rfl rfl (ld31 HG.out)) rfl ?_
      rw[HRR.out]
      exact⟨_,rfl,⟨q,x,c,tq,rfl,HROW.out.below HB5.out,HTL.out,HSB.out.up HB5.out.size⟩,HB5.out⟩
     ·have hb2i:¬(h0:Int)<(N:Int)+(S:Int):=by omega
      have HM1:Hid (mgo h0 (N+S) (([({ data:=#[] }:ByteArray)].map ByteArray.size).drop (j+1))=mgo h0 0 ([({ data:=#[] }:ByteArray)].map ByteArray.size)):=Lib.hid (by rw[←HM.out,HDR.out,mgo_some (by rw[HSE.out];omega),HSE.out])
      have HJ1:Hid (j+1≤N+S):=Lib.hid (by have:=HJN.out;omega)
      go_wp2
      go_roundw
      case rel=>exact⟨j+1,N+S,by omega,by go_num,by go_num,by omega,HJ1,HM1,HB⟩
      case measure=>simp[intOf];omega
   ·obtain rfl:j=1:=by omega
    have HRS:Hid (R=(⟨h0,N,g+1⟩,0)):=Lib.hid (HRN2.out N (by rw[←HM.out,List.drop_of_length_le (by rw[List.length_map,HLN.out];exact Nat.le_refl _)];rfl))
    have c0:=cell_at HA1'.out 0
    have c3:=cell_at HA1'.out 3
    simp only[List.getElem?_toArray,List.getElem?_cons_zero,List.getElem?_cons_succ]at c0 c3
    have HWR:Hid (IntKind.i64.wrap ((g:Int)+1)=(g:Int)+1):=Lib.hid (by rw[IntKind.wrap_i64];omega)
    have HRTW:=Lib.hid (HRT.out.below HB.out)
    go_wp2_with fail
    refine wp_region_fine_drop 10 (TL [eqv (.pointer (some ⟨w.heap.size,0,none⟩)),eqv (.int .i64 (h0:Int)),EmpS wr.heap.size,eqv (.slice (some ⟨w.heap.size+1+1,0,none⟩) 1 1),StrP wr.heap.size [({ data:=#[] }:ByteArray)],eqv (.int .i64 (N:Int)),eqv (.pointer (some ⟨w.heap.size,3,none⟩)),eqv (.int .i64 (g:Int)),eqv (.int .i64 ((g:Int)+1)),BldS wr.heap.size [({ data:=#[] }:ByteArray)] (h0:Int) (N:Int) ((g:Int)+1)]) (by kernel_rfl) (by kernel_rfl) (by kernel_rfl) (by kernel_rfl) (TL_last (List.forall_mem_cons.2 ⟨eqv_last _,List.forall_mem_cons.2 ⟨eqv_last _,List.forall_mem_cons.2 ⟨EmpS_last _,List.forall_mem_cons.2 ⟨eqv_last _,List.forall_mem_cons.2 ⟨StrP_last _ _,List.forall_mem_cons.2 ⟨eqv_last _,List.forall_mem_cons.2 ⟨eqv_last _,List.forall_mem_cons.2 ⟨eqv_last _,List.forall_mem_cons.2 ⟨eqv_last _,List.forall_mem_cons.2 ⟨BldS_last _ _ _ _ _,fun _ h=>(List.not_mem_nil h).elim⟩⟩⟩⟩⟩⟩⟩⟩⟩⟩)) (TL_no_guard (by kernel_rfl)) ?_ ?_
    ·intro ix o' ho a' W hWI hdep hfix
     simp only[List.take_succ_cons,List.take_zero]at ho hdep hfix
     have d0:=(hWI.cell (p:=⟨w.heap.size,0,none⟩) (Array.getElem?_eq_some_iff.1 HA1'.out).1).trans c0
     have d3:=(hWI.cell (p:=⟨w.heap.size,3,none⟩) (Array.getElem?_eq_some_iff.1 HA1'.out).1).trans c3
     match ix,ho with
     |0,ho =>
      obtain rfl:=Option.some.inj ho
      have e1:a'.tmps.getD 2 undef=.pointer (some ⟨w.heap.size,0,none⟩):=hfix 2 (by decide +kernel)
      exact lays_eq _ rfl (exec_fdT e1 (fa31 w.heap.size W).1)
     |1,ho =>
      obtain rfl:=Option.some.inj ho
      have e1:a'.tmps.getD 38 undef=.pointer (some ⟨w.heap.size,0,none⟩):=hdep 0 _ 38 rfl rfl (by decide +kernel)
      exact lays_eq _ rfl (exec_ldT e1 (ld3o d0))
     |2,ho =>
      obtain rfl:=Option.some.inj ho
      exact lays_value exec_bs29z (below_new W _) ⟨W.heap.size,rfl,hWI.size,heap_alloc_new W _⟩
     |3,ho =>
      obtain rfl:=Option.some.inj ho
      exact lays_eq _ rfl (exec_move (hfix 1 (by decide +kernel)))
     |4,ho =>
      obtain rfl:=Option.some.inj ho
      have e1:a'.tmps.getD 41 undef=.slice (some ⟨w.heap.size+1+1,0,none⟩) 1 1:=hdep 3 _ 41 rfl rfl (by decide +kernel)
      obtain⟨be,e2,hbe,hbh⟩:EmpS wr.heap.size (a'.tmps.getD 40 undef) W:=hdep 2 _ 40 rfl rfl (by decide +kernel)
      have hRW:=HRTW.out.below hWI
      obtain⟨v',W',hr',hown,hbl⟩:=appS_fresh hbe hbh hRW (by omega) hWI.size 29
      rw[←e2,←e1]at hr'
      exact lays_value (exec_appS (x:=.tmp 40) (y:=.tmp 41) rfl rfl hr') hbl hown
     |5,ho =>
      obtain rfl:=Option.some.inj ho
      exact lays_eq _ rfl (exec_move (hfix 6 (by decide +kernel)))
     |6,ho =>
      obtain rfl:=Option.some.inj ho
      have e1:a'.tmps.getD 2 undef=.pointer (some ⟨w.heap.size,0,none⟩):=hfix 2 (by decide +kernel)
      exact lays_eq _ rfl (exec_fdT e1 (fa31 w.heap.size W).2.2.2)
     |7,ho =>
      obtain rfl:=Option.some.inj ho
      have e1:a'.tmps.getD 44 undef=.pointer (some ⟨w.heap.size,3,none⟩):=hdep 6 _ 44 rfl rfl (by decide +kernel)
      exact lays_eq _ rfl (exec_ldT e1 (ld3o d3))
     |8,ho =>
      obtain rfl:=Option.some.inj ho
      have e1:a'.tmps.getD 45 undef=.int .i64 (g:Int):=hdep 7 _ 45 rfl rfl (by decide +kernel)
      have hw:IntKind.i64.wrap ((g:Int)+1)=(g:Int)+1:=HWR.out
      exact lays_eq _ rfl (exec_add3 e1 rfl hw)
     |9,ho =>
      obtain rfl:=Option.some.inj ho
      have e1:a'.tmps.getD 39 undef=.int .i64 (h0:Int):=hdep 1 _ 39 rfl rfl (by decide +kernel)
      have e2:OwnS W wr.heap.size (a'.tmps.getD 42 undef) [({ data:=#[] }:ByteArray)]:=hdep 4 _ 42 rfl rfl (by decide +kernel)
      have e3:a'.tmps.getD 43 undef=.int .i64 (N:Int):=hdep 5 _ 43 rfl rfl (by decide +kernel)
      have e4:a'.tmps.getD 46 undef=.int .i64 ((g:Int)+1):=hdep 8 _ 46 rfl rfl (by decide +kernel)
      obtain⟨pp,cc,e5⟩:=e2.form
      exact lays_eq _ ⟨_,by rw[e5],e2⟩ (exec_bd31 e1 e5 e3 e4)
     |ix+10,ho=>simp at ho
    ·intro a' W hWI hd hsz hfix hT
     simp only[List.take_succ_cons,List.take_zero,List.drop_succ_cons,List.drop_zero]at hfix hT ⊢
     have f4:a'.tmps.getD 4 undef=.pointer (some ⟨w.heap.size+1,0,none⟩):=hfix 4 (by decide +kernel)
     obtain⟨u,f47,hown⟩:BldS wr.heap.size [({ data:=#[] }:ByteArray)] (h0:Int) (N:Int) ((g:Int)+1) (a'.tmps.getD 47 undef) W:=hT 9 _ 47 rfl rfl
     rw[frame_lit a' 48 hsz hd]
     clear hfix hT hsz hd
     simp only[List.range,List.range.loop,List.map]
     generalize a'.tmps=tm at *
     simp only[f4,f47]
     clear f4 f47
     obtain⟨pp,cc,hu⟩:=hown.form
     have HZ:=Lib.hid ((hWI.block (w.heap.size+1) (Array.getElem?_eq_some_iff.1 HA2'.out).1).trans HA2'.out)
     have HBX:=Lib.hid (HBW.out.trans (hWI.mono HBW.out.size))
     have HOW:=Lib.hid hown
     rw[HLN.out]at hu
     have HU:=Lib.hid hu
     rw[hu]
     have I0:=Lib.hid (show (Tryz.prog.info? 31).map (·.size)=some (#[.int .i64 (h0:Int),.slice pp 1 cc,.int .i64 (N:Int),.int .i64 ((g:Int)+1)]:Array Value).size from i31)
     have I1:=Lib.hid (show (#[.int .i64 0,.slice none 0 0,.int .i64 0,.int .i64 0]:Array Value).size=(#[.int .i64 (h0:Int),.slice pp 1 cc,.int .i64 (N:Int),.int .i64 ((g:Int)+1)]:Array Value).size from rfl)
     have I2:=Lib.hid (show (#[.int .i64 (h0:Int),.slice pp 1 cc,.int .i64 (N:Int),.int .i64 ((g:Int)+1)]:Array Value).all (·.oneCell')=true by simp[Value.oneCell'])
     clear hu hown hWI
     go_wp2_with (with_reducible refine wpList_put 31 (w.heap.size+1) _ _ rfl rfl HZ.out I0.out I1.out I2.out ?_)
     intro w5 hg hgr
     have HG:=Lib.hid hg
     have HB5:=Lib.hid (below_put HBX.out hgr HBX.out.size (Nat.le_succ _))
     have HO5:Hid (OwnS w5 wr.heap.size (.slice pp 1 cc) [({ data:=#[] }:ByteArray)]):=Lib.hid (by
      have h5:=HOW.out
      rw[HU.out]at h5
      exact h5.kept hgr (by
       cases hv:(Value.slice pp 1 cc).ownBlock with
       |none=>exact Or.inl rfl
       |some k=>exact Or.inr (by have:=(h5.lt k hv).1;have:=(Array.getElem?_eq_some_iff.1 HA2'.out).1;simp;omega)))
     clear hg hgr
     go_wp2
     refine bodyPost_ret (v:=.tuple #[.agg #[.int .i64 (h0:Int),.slice pp 1 cc,.int .i64 (N:Int),.int .i64 ((g:Int)+1)],.int .i64 0]) (res2 Tryz.results46 _ _ _ (w.heap.size+1) _ _ rfl rfl (ld31 HG.out)) rfl ?_
     rw[HRS.out]
     exact⟨_,rfl,⟨pp,1,cc,[({ data:=#[] }:ByteArray)],rfl,HO5.out.strs,by rw[HLN.out];exact HJN.out,HO5.out.sb fun k hk=>HS0.out k (Nat.le_trans HBW.out.size hk)⟩,HB5.out⟩
 ·have hn0i:¬(n:Int)=0:=by omega
  have hn0b:((n:Int) == 0)=false:=by simpa using hn0i
  have hne:ts.map ByteArray.size≠[]:=fun e=>hn0 (by rw[←HN.out,List.map_eq_nil_iff.1 e];rfl)
  have HRN:Hid (mgo h0 0 (ts.map ByteArray.size)=none→R=(⟨h0,tk,g⟩,6)):=Lib.hid fun e=>by
   rw[←HR.out];unfold Md.anew dsome;rw[if_neg hne,e]
  have HRN2:Hid (∀N,mgo h0 0 (ts.map ByteArray.size)=some N→R=(⟨h0,N,g+1⟩,0)):=Lib.hid fun N e=>by
   rw[←HR.out];unfold Md.anew dsome;rw[if_neg hne,e]
  have HLN:=HN
  have HLS:=HSZ
  have HRT:=Lib.hid (HTS.out.below HB0.out)
  clear hne hn0i
  go_enter Tryz.func46,Tryz.ntmps46
  go_wp2
  obtain⟨wk,hwk⟩:∃wk,((w.alloc (.cells #[.int .i64 (h0:Int),.slice q x c,.int .i64 (tk:Int),.int .i64 (g:Int)] 31)).alloc (.cells #[.int .i64 0,.slice none 0 0,.int .i64 0,.int .i64 0] 31))=wk:=⟨_,rfl⟩
  rw[hwk]at HRT HB0 HA1 HA2 ⊢
  clear hwk
  go_loopw [6,7] (fun nn i wr=>∃(j N:Nat),j≤n∧i=.int .i64 (j:Int)∧nn=.int .i64 (N:Int)∧N≤h0∧Hid (j≤N)∧Hid (mgo h0 N ((ts.map ByteArray.size).drop j)=mgo h0 0 (ts.map ByteArray.size))∧Hid (Below wk.heap.size wk wr)) (fun _ i _=>n-(intOf i).toNat)
  case atStart=>exact⟨0,0,Nat.zero_le _,rfl,rfl,Nat.zero_le _,Lib.hid (Nat.le_refl _),Lib.hid rfl,Lib.hid (Below.refl _ _)⟩
  case round =>
   obtain⟨j,N,hj,rfl,rfl,hN,HJN,HM,HB⟩:=hrel
   have HA1':=Lib.hid ((HB.out.block w.heap.size (Array.getElem?_eq_some_iff.1 HA1.out).1).trans HA1.out)
   have HA2':=Lib.hid ((HB.out.block (w.heap.size+1) (Array.getElem?_eq_some_iff.1 HA2.out).1).trans HA2.out)
   have HBW:=Lib.hid (HB0.out.trans (HB.out.mono HB0.out.size))
   by_cases hlt:j<n
   ·have hlti:(j:Int)<((n:Nat):Int):=by omega
    obtain⟨s,hs⟩:∃s,ts[j]?=some s:=⟨ts[j]'(by have:=HLN.out;omega),List.getElem?_eq_getElem _⟩
    obtain⟨_,_,e',_,hrw⟩:=HRT.out.below HB.out
    simp only[Value.slice.injEq]at e'
    obtain⟨rfl,hnx,rfl⟩:=e'
    clear hnx
    obtain⟨bb,oo,hup,hbb,d0⟩:=hrw j s hs
    have HSS:=Lib.hid (HTK.out s (HLS.out s (List.mem_of_getElem? hs)) wr)
    have HDR:Hid ((ts.map ByteArray.size).drop j=s.size :: (ts.map ByteArray.size).drop (j+1)):=Lib.hid (drop_cons (by rw[List.getElem?_map,hs];rfl))
    obtain⟨n1,hn1⟩:∃n1,s.size=n1:=⟨_,rfl⟩
    have HN1:=Lib.hid hn1
    have hn1b:n1≤140737488355328:=by rw[←hn1];exact HLS.out s (List.mem_of_getElem? hs)
    obtain⟨S,hS⟩:∃S,dsecs n1=S:=⟨_,rfl⟩
    have HSE:=Lib.hid hS
    have hSb:S≤140737488355328∧1≤S:=by rw[←hS];unfold dsecs;omega
    rw[hn1,hS]at HSS
    have hww:IntKind.i64.wrap ((N:Int)+(S:Int))=(N:Int)+(S:Int):=by rw[IntKind.wrap_i64];omega
    rw[hn1]at HDR
    subst hup
    clear hs hrw hn1 hS
    go_wp2_with fail
    refine HSS.out.mono ?_
    rintro e w3 ⟨rfl,rfl⟩
    have c0:=cell_at HA1'.out 0
    have c1:=cell_at HA1'.out 1
    have c2:=cell_at HA1'.out 2
    have c3:=cell_at HA1'.out 3
    simp only[List.getElem?_toArray,List.getElem?_cons_zero,List.getElem?_cons_succ]at c0 c1 c2 c3
    by_cases hb1:65535<n1
    ·have HRR:Hid (R=(⟨h0,tk,g⟩,6)):=Lib.hid (HRN.out (by rw[←HM.out,HDR.out];exact mgo_none (.inl hb1)))
     have hb1i:(65535:Int)<(s.size:Int):=by rw[HN1.out];omega
     have I0:=Lib.hid (show (Tryz.prog.info? 31).map (·.size)=some (#[.int .i64 (h0:Int),.slice q x c,.int .i64 (tk:Int),.int .i64 (g:Int)]:Array Value).size from i31)
     have I1:=Lib.hid (show (#[.int .i64 0,.slice none 0 0,.int .i64 0,.int .i64 0]:Array Value).size=(#[.int .i64 (h0:Int),.slice q x c,.int .i64 (tk:Int),.int .i64 (g:Int)]:Array Value).size from rfl)
     have I2:=Lib.hid (show (#[.int .i64 (h0:Int),.slice q x c,.int .i64 (tk:Int),.int .i64 (g:Int)]:Array Value).all (·.oneCell')=true by simp[Value.oneCell'])
     go_wp2_with (with_reducible refine wpList_put 31 (w.heap.size+1) _ _ rfl rfl HA2'.out I0.out I1.out I2.out ?_)
     intro w5 hg hgr
     have HG:=Lib.hid hg
     have HB5:=Lib.hid (below_put HBW.out hgr HBW.out.size (Nat.le_succ _))
     clear hg hgr c0 c1 c2 c3
     go_wp2
     refine bodyPost_ret (v:=.tuple #[.agg #[.int .i64 (h0:Int),.slice q x c,.int .i64 (tk:Int),.int .i64 (g:Int)],.int .i64 6]) (res2 Tryz.results46 _ _ _ (w.heap.size+1) _ _ rfl rfl (ld31 HG.out)) rfl ?_
     rw[HRR.out]
     exact⟨_,rfl,⟨q,x,c,tq,rfl,HROW.out.below HB5.out,HTL.out,HSB.out.up HB5.out.size⟩,HB5.out⟩
    ·have hb1i:¬(65535:Int)<(s.size:Int):=by rw[HN1.out];omega
     by_cases hb2:h0<N+S
     ·have HRR:Hid (R=(⟨h0,tk,g⟩,6)):=Lib.hid (HRN.out (by rw[←HM.out,HDR.out];exact mgo_none (.inr (by rw[HSE.out];exact hb2))))
      have hb2i:(h0:Int)<(N:Int)+(S:Int):=by omega
      have I0:=Lib.hid (show (Tryz.prog.info? 31).map (·.size)=some (#[.int .i64 (h0:Int),.slice q x c,.int .i64 (tk:Int),.int .i64 (g:Int)]:Array Value).size from i31)
      have I1:=Lib.hid (show (#[.int .i64 0,.slice none 0 0,.int .i64 0,.int .i64 0]:Array Value).size=(#[.int .i64 (h0:Int),.slice q x c,.int .i64 (tk:Int),.int .i64 (g:Int)]:Array Value).size from rfl)
      have I2:=Lib.hid (show (#[.int .i64 (h0:Int),.slice q x c,.int .i64 (tk:Int),.int .i64 (g:Int)]:Array Value).all (·.oneCell')=true by simp[Value.oneCell'])
      go_wp2_with (with_reducible refine wpList_put 31 (w.heap.size+1) _ _ rfl rfl HA2'.out I0.out I1.out I2.out ?_)
      intro w5 hg hgr
      have HG:=Lib.hid hg
      have HB5:=Lib.hid (below_put HBW.out hgr HBW.out.size (Nat.le_succ _))
      clear hg hgr c0 c1 c2 c3
      go_wp2
      refine bodyPost_ret (v:=.tuple #[.agg #[.int .i64 (h0:Int),.slice q x c,.int .i64 (tk:Int),.int .i64 (g:Int)],.int .i64 6]) (res2 Tryz.results46 _ _ _ (w.heap.size+1) _ _ rfl rfl (ld31 HG.out)) rfl ?_
      rw[HRR.out]
      exact⟨_,rfl,⟨q,x,c,tq,rfl,HROW.out.below HB5.out,HTL.out,HSB.out.up HB5.out.size⟩,HB5.out⟩
     ·have hb2i:¬(h0:Int)<(N:Int)+(S:Int):=by omega
      have HM1:Hid (mgo h0 (N+S) ((ts.map ByteArray.size).drop (j+1))=mgo h0 0 (ts.map ByteArray.size)):=Lib.hid (by rw[←HM.out,HDR.out,mgo_some (by rw[HSE.out];omega),HSE.out])
      have HJ1:Hid (j+1≤N+S):=Lib.hid (by have:=HJN.out;omega)
      go_wp2
      go_roundw
      case rel=>exact⟨j+1,N+S,by omega,by go_num,by go_num,by omega,HJ1,HM1,HB⟩
      case measure=>simp[intOf];omega
   ·obtain rfl:j=n:=by omega
    have HRS:Hid (R=(⟨h0,N,g+1⟩,0)):=Lib.hid (HRN2.out N (by rw[←HM.out,List.drop_of_length_le (by rw[List.length_map,HLN.out];exact Nat.le_refl _)];rfl))
    have c0:=cell_at HA1'.out 0
    have c3:=cell_at HA1'.out 3
    simp only[List.getElem?_toArray,List.getElem?_cons_zero,List.getElem?_cons_succ]at c0 c3
    have HWR:Hid (IntKind.i64.wrap ((g:Int)+1)=(g:Int)+1):=Lib.hid (by rw[IntKind.wrap_i64];omega)
    have HRTW:=Lib.hid (HRT.out.below HB.out)
    go_wp2_with fail
    refine wp_region_fine_drop 10 (TL [eqv (.pointer (some ⟨w.heap.size,0,none⟩)),eqv (.int .i64 (h0:Int)),EmpS wr.heap.size,eqv (.slice up j uc),StrP wr.heap.size ts,eqv (.int .i64 (N:Int)),eqv (.pointer (some ⟨w.heap.size,3,none⟩)),eqv (.int .i64 (g:Int)),eqv (.int .i64 ((g:Int)+1)),BldS wr.heap.size ts (h0:Int) (N:Int) ((g:Int)+1)]) (by kernel_rfl) (by kernel_rfl) (by kernel_rfl) (by kernel_rfl) (TL_last (List.forall_mem_cons.2 ⟨eqv_last _,List.forall_mem_cons.2 ⟨eqv_last _,List.forall_mem_cons.2 ⟨EmpS_last _,List.forall_mem_cons.2 ⟨eqv_last _,List.forall_mem_cons.2 ⟨StrP_last _ _,List.forall_mem_cons.2 ⟨eqv_last _,List.forall_mem_cons.2 ⟨eqv_last _,List.forall_mem_cons.2 ⟨eqv_last _,List.forall_mem_cons.2 ⟨eqv_last _,List.forall_mem_cons.2 ⟨BldS_last _ _ _ _ _,fun _ h=>(List.not_mem_nil h).elim⟩⟩⟩⟩⟩⟩⟩⟩⟩⟩)) (TL_no_guard (by kernel_rfl)) ?_ ?_
    ·intro ix o' ho a' W hWI hdep hfix
     simp only[List.take_succ_cons,List.take_zero]at ho hdep hfix
     have d0:=(hWI.cell (p:=⟨w.heap.size,0,none⟩) (Array.getElem?_eq_some_iff.1 HA1'.out).1).trans c0
     have d3:=(hWI.cell (p:=⟨w.heap.size,3,none⟩) (Array.getElem?_eq_some_iff.1 HA1'.out).1).trans c3
     match ix,ho with
     |0,ho =>
      obtain rfl:=Option.some.inj ho
      have e1:a'.tmps.getD 2 undef=.pointer (some ⟨w.heap.size,0,none⟩):=hfix 2 (by decide +kernel)
      exact lays_eq _ rfl (exec_fdT e1 (fa31 w.heap.size W).1)
     |1,ho =>
      obtain rfl:=Option.some.inj ho
      have e1:a'.tmps.getD 38 undef=.pointer (some ⟨w.heap.size,0,none⟩):=hdep 0 _ 38 rfl rfl (by decide +kernel)
      exact lays_eq _ rfl (exec_ldT e1 (ld3o d0))
     |2,ho =>
      obtain rfl:=Option.some.inj ho
      exact lays_value exec_bs29z (below_new W _) ⟨W.heap.size,rfl,hWI.size,heap_alloc_new W _⟩
     |3,ho =>
      obtain rfl:=Option.some.inj ho
      exact lays_eq _ rfl (exec_move (hfix 1 (by decide +kernel)))
     |4,ho =>
      obtain rfl:=Option.some.inj ho
      have e1:a'.tmps.getD 41 undef=.slice up j uc:=hdep 3 _ 41 rfl rfl (by decide +kernel)
      obtain⟨be,e2,hbe,hbh⟩:EmpS wr.heap.size (a'.tmps.getD 40 undef) W:=hdep 2 _ 40 rfl rfl (by decide +kernel)
      have hRW:=HRTW.out.below hWI
      obtain⟨v',W',hr',hown,hbl⟩:=appS_fresh hbe hbh hRW (by omega) hWI.size 29
      rw[←e2,←e1]at hr'
      exact lays_value (exec_appS (x:=.tmp 40) (y:=.tmp 41) rfl rfl hr') hbl hown
     |5,ho =>
      obtain rfl:=Option.some.inj ho
      exact lays_eq _ rfl (exec_move (hfix 6 (by decide +kernel)))
     |6,ho =>
      obtain rfl:=Option.some.inj ho
      have e1:a'.tmps.getD 2 undef=.pointer (some ⟨w.heap.size,0,none⟩):=hfix 2 (by decide +kernel)
      exact lays_eq _ rfl (exec_fdT e1 (fa31 w.heap.size W).2.2.2)
     |7,ho =>
      obtain rfl:=Option.some.inj ho
      have e1:a'.tmps.getD 44 undef=.pointer (some ⟨w.heap.size,3,none⟩):=hdep 6 _ 44 rfl rfl (by decide +kernel)
      exact lays_eq _ rfl (exec_ldT e1 (ld3o d3))
     |8,ho =>
      obtain rfl:=Option.some.inj ho
      have e1:a'.tmps.getD 45 undef=.int .i64 (g:Int):=hdep 7 _ 45 rfl rfl (by decide +kernel)
      have hw:IntKind.i64.wrap ((g:Int)+1)=(g:Int)+1:=HWR.out
      exact lays_eq _ rfl (exec_add3 e1 rfl hw)
     |9,ho =>
      obtain rfl:=Option.some.inj ho
      have e1:a'.tmps.getD 39 undef=.int .i64 (h0:Int):=hdep 1 _ 39 rfl rfl (by decide +kernel)
      have e2:OwnS W wr.heap.size (a'.tmps.getD 42 undef) ts:=hdep 4 _ 42 rfl rfl (by decide +kernel)
      have e3:a'.tmps.getD 43 undef=.int .i64 (N:Int):=hdep 5 _ 43 rfl rfl (by decide +kernel)
      have e4:a'.tmps.getD 46 undef=.int .i64 ((g:Int)+1):=hdep 8 _ 46 rfl rfl (by decide +kernel)
      obtain⟨pp,cc,e5⟩:=e2.form
      exact lays_eq _ ⟨_,by rw[e5],e2⟩ (exec_bd31 e1 e5 e3 e4)
     |ix+10,ho=>simp at ho
    ·intro a' W hWI hd hsz hfix hT
     simp only[List.take_succ_cons,List.take_zero,List.drop_succ_cons,List.drop_zero]at hfix hT ⊢
     have f4:a'.tmps.getD 4 undef=.pointer (some ⟨w.heap.size+1,0,none⟩):=hfix 4 (by decide +kernel)
     obtain⟨u,f47,hown⟩:BldS wr.heap.size ts (h0:Int) (N:Int) ((g:Int)+1) (a'.tmps.getD 47 undef) W:=hT 9 _ 47 rfl rfl
     rw[frame_lit a' 48 hsz hd]
     clear hfix hT hsz hd
     simp only[List.range,List.range.loop,List.map]
     generalize a'.tmps=tm at *
     simp only[f4,f47]
     clear f4 f47
     obtain⟨pp,cc,hu⟩:=hown.form
     have HZ:=Lib.hid ((hWI.block (w.heap.size+1) (Array.getElem?_eq_some_iff.1 HA2'.out).1).trans HA2'.out)
     have HBX:=Lib.hid (HBW.out.trans (hWI.mono HBW.out.size))
     have HOW:=Lib.hid hown
     rw[HLN.out]at hu
     have HU:=Lib.hid hu
     rw[hu]
     have I0:=Lib.hid (show (Tryz.prog.info? 31).map (·.size)=some (#[.int .i64 (h0:Int),.slice pp j cc,.int .i64 (N:Int),.int .i64 ((g:Int)+1)]:Array Value).size from i31)
     have I1:=Lib.hid (show (#[.int .i64 0,.slice none 0 0,.int .i64 0,.int .i64 0]:Array Value).size=(#[.int .i64 (h0:Int),.slice pp j cc,.int .i64 (N:Int),.int .i64 ((g:Int)+1)]:Array Value).size from rfl)
     have I2:=Lib.hid (show (#[.int .i64 (h0:Int),.slice pp j cc,.int .i64 (N:Int),.int .i64 ((g:Int)+1)]:Array Value).all (·.oneCell')=true by simp[Value.oneCell'])
     clear hu hown hWI
     go_wp2_with (with_reducible refine wpList_put 31 (w.heap.size+1) _ _ rfl rfl HZ.out I0.out I1.out I2.out ?_)
     intro w5 hg hgr
     have HG:=Lib.hid hg
     have HB5:=Lib.hid (below_put HBX.out hgr HBX.out.size (Nat.le_succ _))
     have HO5:Hid (OwnS w5 wr.heap.size (.slice pp j cc) ts):=Lib.hid (by
      have h5:=HOW.out
      rw[HU.out]at h5
      exact h5.kept hgr (by
       cases hv:(Value.slice pp j cc).ownBlock with
       |none=>exact Or.inl rfl
       |some k=>exact Or.inr (by have:=(h5.lt k hv).1;have:=(Array.getElem?_eq_some_iff.1 HA2'.out).1;simp;omega)))
     clear hg hgr
     go_wp2
     refine bodyPost_ret (v:=.tuple #[.agg #[.int .i64 (h0:Int),.slice pp j cc,.int .i64 (N:Int),.int .i64 ((g:Int)+1)],.int .i64 0]) (res2 Tryz.results46 _ _ _ (w.heap.size+1) _ _ rfl rfl (ld31 HG.out)) rfl ?_
     rw[HRS.out]
     exact⟨_,rfl,⟨pp,j,cc,ts,rfl,HO5.out.strs,by rw[HLN.out];exact HJN.out,HO5.out.sb fun k hk=>HS0.out k (Nat.le_trans HBW.out.size hk)⟩,HB5.out⟩
end Go.Proofs.YtlogjpmdfimgdaaGreatDoor
namespace Go.Proofs.YtlogjpmdfimgdaaGreatDoor
open Go Go.RowKit Go.Own Go.Own.Fr Go.Maps Go.WideMaps
def DS(S:Nat→Prop)(T:Nat)(w:World)(v:Value)(m:Md)(D:List Pr):Prop :=
 ∃q x c ts p cap,v=.agg #[.int .i64 (m.half:Int),.slice q x c,.int .i64 (m.taken:Int),.int .i64 (m.gen:Int),.slice p D.length cap]∧StrRow w (.slice q x c) ts∧ts.length≤m.taken∧PRowT w (.slice p D.length cap) D T∧SB S w q∧SB S w p
theorem DS.below{S:Nat→Prop}{T:Nat}{w w':World}{v:Value}{m:Md}{D:List Pr}(h:DS S T w v m D)(hT:T≤w.heap.size)(hB:Below w.heap.size w w'):DS S T w' v m D:=by
 obtain⟨q,x,c,ts,p,cap,h1,h2,h3,h4,h5,h6⟩:=h
 exact⟨q,x,c,ts,p,cap,h1,h2.below hB,h3,h4.below hT hB,h5.up hB.size,h6.up hB.size⟩
def dcommit(m:Md)(D:List Pr)(l:List (ByteArray×V×Bool)):(Md×List Pr)×Int :=
 if er (trA (l.map chV)) 0≠0 then ((m,D),er (trA (l.map chV)) 0)
 else if (m.app (prt (trA (l.map chV))).size).2=0 then (((m.app (prt (trA (l.map chV))).size).1,l.foldl layC D),0)
 else if (m.anew ((dTxs (l.foldl layC D)).map ByteArray.size)).2=0 then (((m.anew ((dTxs (l.foldl layC D)).map ByteArray.size)).1,l.foldl layC D),0)
 else ((m,D),((m.anew ((dTxs (l.foldl layC D)).map ByteArray.size)).2:Int))
def dcompact(m:Md)(D:List Pr):(Md×List Pr)×Int :=
 if (m.anew ((dTxs D).map ByteArray.size)).2=0 then (((m.anew ((dTxs D).map ByteArray.size)).1,D),0)
 else ((m,D),((m.anew ((dTxs D).map ByteArray.size)).2:Int))
def dact(m:Md)(D:List Pr)(a:Ac):(Md×List Pr)×Int:=if a.cp=true then dcompact m D else dcommit m D a.l
theorem layC_mem{D:List Pr}{c:ByteArray×V×Bool}{y:Pr}(h:y∈layC D c):y∈D∨(y=(c.1,c.2.1)∧c.2.2=false):=by
 rcases(lay1_mem c.1 c.2.1 y D c.2.2).1 h with⟨h1,_⟩ | ⟨h1,h2⟩
 ·exact .inl h1
 ·exact .inr ⟨h1,h2⟩
theorem fold_mem:∀(l:List (ByteArray×V×Bool)) (D:List Pr) (y:Pr),y∈l.foldl layC D→y∈D∨∃c∈l,y=(c.1,c.2.1)∧c.2.2=false
 | [],_,_,h=>.inl h
 |c :: r,D,y,h=>by
  rcases fold_mem r (layC D c) y h with h | ⟨c',h1,h2⟩
  ·rcases layC_mem h with h | h
   ·exact .inl h
   ·exact .inr ⟨c,by simp,h⟩
  ·exact .inr ⟨c',by simp[h1],h2⟩
theorem fold_ok{l:List (ByteArray×V×Bool)}{D:List Pr}(hD:∀x∈D,PrOk x)(hl:∀c∈l,OkC c)(he:er (trA (l.map chV)) 0=0):∀x∈l.foldl layC D,PrOk x:=fun y hy=>by
 rcases fold_mem l D y hy with h | ⟨c,hc,rfl,hg⟩
 ·exact hD y h
 ·obtain⟨h1,h2⟩:=(er_trA he).2 (chV c) (List.mem_map.2 ⟨c,hc,rfl⟩)
  exact⟨h1,fewT_of c.2.1 1 (hl c hc).2.1,h2 _ (by unfold chV;rw[hg];rfl),sz_two c.2.1 (hl c hc).2.1⟩
theorem prt_size(cs:List Ch)(h:sz (trA cs) 0≤140737488355328):(prt (trA cs)).size≤140737488355328:=by
 unfold prt
 split
 ·rename_i he
  rw[mkS_size,pr_sz _ _ he];exact h
 ·decide
theorem map_pr_mem{E:List Pr}{c:Ch}(h:c∈E.map fun x=>(x.1,some (ofV x.2))):∃x∈E,c=(x.1,some (ofV x.2)):=by
 obtain⟨x,hx,rfl⟩:=List.mem_map.1 h
 exact⟨x,hx,rfl⟩
theorem dTxs_size{D:List Pr}(hD:∀x∈D,PrOk x):∀s∈dTxs D,s.size≤140737488355328:=by
 have h16:∀k,(dTx D k).size≤140737488355328:=fun k=>prt_size _ (sz_tr30 _ (fun c hc a ha=>by
  obtain⟨x,hx,rfl⟩:=map_pr_mem hc
  rw[←Option.some.inj ha]
  exact(hD x (List.mem_of_mem_drop (List.mem_of_mem_take hx))).2.2.2) (by rw[List.length_map,List.length_take];omega))
 intro s hs
 unfold dTxs at hs
 split at hs
 ·rw[List.mem_singleton.1 hs]
  exact prt_size [] (sz_tr30 [] (fun c hc=>by simp at hc) (by simp))
 ·obtain⟨k,_,rfl⟩:=List.mem_map.1 hs
  exact h16 k
theorem dTxs_length(D:List Pr)(h:D.length≤100000):(dTxs D).length≤100000:=by
 unfold dTxs
 split
 ·simp
 ·rw[List.length_map,List.length_range];omega
abbrev zero34:Array Value:=#[.int .i64 0,.slice none 0 0,.int .i64 0,.int .i64 0,.slice none 0 0]
structure Sb(w:World)(A:Array Value)(W:World):Prop where
 a:W.heap[w.heap.size]?=some (.cells A 34 (0,0))
 b:W.heap[w.heap.size+1]?=some (.cells zero34 34 (0,0))
 be:Below w.heap.size w W
theorem Sb.new(w:World)(A:Array Value):Sb w A ((w.alloc (.cells A 34)).alloc (.cells zero34 34)):=by
 refine⟨((below_new _ _).block w.heap.size (by simp)).trans (heap_alloc_new w _),?_,((Below.refl _ w).alloc (Nat.le_refl _) _).alloc (by simp) _⟩
 have:=heap_alloc_new (w.alloc (.cells A 34)) (.cells zero34 34)
 rwa [World.size_alloc]at this
theorem Sb.below{w W W':World}{A:Array Value}(h:Sb w A W)(hb:Below W.heap.size W W'):Sb w A W' :=
 ⟨(hb.block _ (Array.getElem?_eq_some_iff.1 h.a).1).trans h.a,(hb.block _ (Array.getElem?_eq_some_iff.1 h.b).1).trans h.b,h.be.trans (hb.mono h.be.size)⟩
def Jb(W:World)(g:Nat)(cs:Array Value):Prop:=W.heap[g]?=some (.cells cs 31 (0,0))
theorem Jb.below{W W':World}{g:Nat}{cs:Array Value}(h:Jb W g cs)(hb:Below W.heap.size W W'):Jb W' g cs:=(hb.block _ (Array.getElem?_eq_some_iff.1 h).1).trans h
theorem Jb.new(W:World)(cs:Array Value):Jb (W.alloc (.cells cs 31)) W.heap.size cs:=heap_alloc_new W _
def DComQ(S:Nat→Prop)(T:Nat)(r:(Md×List Pr)×Int)(w:World)(e:Ending)(w':World):Prop:=∃v',e=.returned (.tuple #[v',.int .i64 r.2])∧DS S T w' v' r.1.1 r.1.2∧Below w.heap.size w w'
set_option maxRecDepth 100000 in
theorem dnew_any(n:Nat)(hn:n≤1000000)(w:World):Calls Tryz.prog 26 #[.int .i64 (n:Int)] w fun e w'=>e=.returned (.agg #[.int .i64 ((n/2:Nat):Int),.slice none 0 0,.int .i64 0,.int .i64 0])∧Below w.heap.size w w':=by
 obtain⟨S,hS⟩:∃S,n/2=S:=⟨_,rfl⟩
 have hq:((n:Int).tdiv 2)=(S:Int):=by
  have:(n:Int).tdiv 2=((n/2:Nat):Int):=rfl
  rw[this,hS]
 have hSw:wrap64 (S:Int)=(S:Int):=IntWalk.wrap64_in _ (by omega)
 rw[hS]
 have HG:Hid (Jb (w.alloc (.cells #[.int .i64 (S:Int),.slice none 0 0,.int .i64 0,.int .i64 0] 31)) w.heap.size #[.int .i64 (S:Int),.slice none 0 0,.int .i64 0,.int .i64 0]):=Lib.hid (Jb.new w _)
 have HB:=Lib.hid (below_new w (.cells #[.int .i64 (S:Int),.slice none 0 0,.int .i64 0,.int .i64 0] 31))
 clear hS hn
 go_enter Tryz.func26,Tryz.ntmps26
 go_wp2
 refine bodyPost_ret (v:=.agg #[.int .i64 (S:Int),.slice none 0 0,.int .i64 0,.int .i64 0]) ?_ rfl ⟨rfl,HB.out⟩
 simp[results,Tryz.results26,asAddr,ld31 HG.out]
set_option maxRecDepth 100000 in
theorem dsnew_any(S:Nat→Prop)(T:Nat)(n:Nat)(hn:n≤1000000)(w:World):Calls Tryz.prog 8 #[.int .i64 (n:Int)] w fun e w'=>∃v',e=.returned v'∧DS S T w' v' ⟨n/2,0,0⟩ []∧Below w.heap.size w w':=by
 have HN:=Lib.hid (fun W=>dnew_any n hn W)
 have HA:=Lib.hid (show (w.alloc (.cells zero34 34)).heap[w.heap.size]?=some (.cells zero34 34 (0,0))from heap_alloc_new w _)
 have HB0:=Lib.hid (below_new w (.cells zero34 34))
 obtain⟨H,hS⟩:∃H,n/2=H:=⟨_,rfl⟩
 rw[hS]at HN ⊢
 clear hS
 unfold zero34 at HA HB0
 go_enter Tryz.func8,Tryz.ntmps8
 go_wp2_with fail
 refine(HN.out _).mono ?_
 rintro e w1 ⟨rfl,hb1⟩
 have HA1:=Lib.hid ((hb1.block w.heap.size (Array.getElem?_eq_some_iff.1 HA.out).1).trans HA.out)
 have HB1:=Lib.hid (HB0.out.trans (hb1.mono HB0.out.size))
 have I0:=Lib.hid (show (Tryz.prog.info? 34).map (·.size)=some (#[.int .i64 (H:Int),.slice none 0 0,.int .i64 0,.int .i64 0,.slice none 0 0]:Array Value).size from i34)
 have I1:=Lib.hid (show (#[.int .i64 0,.slice none 0 0,.int .i64 0,.int .i64 0,.slice none 0 0]:Array Value).size=(#[.int .i64 (H:Int),.slice none 0 0,.int .i64 0,.int .i64 0,.slice none 0 0]:Array Value).size from rfl)
 have I2:=Lib.hid (show (#[.int .i64 (H:Int),.slice none 0 0,.int .i64 0,.int .i64 0,.slice none 0 0]:Array Value).all (·.oneCell')=true by simp[Value.oneCell'])
 clear hb1
 go_wp2_with (with_reducible refine wpList_put 34 w.heap.size _ _ rfl rfl HA1.out I0.out I1.out I2.out ?_)
 intro w5 hg hgr
 have HG:=Lib.hid hg
 have HB:=Lib.hid (below_put HB1.out hgr HB1.out.size (Nat.le_refl _))
 clear hg hgr
 go_wp2
 refine bodyPost_ret (v:=.agg #[.int .i64 (H:Int),.slice none 0 0,.int .i64 0,.int .i64 0,.slice none 0 0]) (by simp[results,Tryz.results8,asAddr,ld34 HG.out]) rfl ?_
 exact⟨_,rfl,⟨none,0,0,[],none,0,rfl,⟨none,0,rfl,Nat.le_refl _,fun j s hs=>by simp at hs⟩,Nat.le_refl _,⟨none,0,rfl,Nat.le_refl _,fun j x hx=>by simp at hx⟩,SB.none _ _,SB.none _ _⟩,HB.out⟩
end Go.Proofs.YtlogjpmdfimgdaaGreatDoor
namespace Go.Proofs.YtlogjpmdfimgdaaGreatDoor
open Go Go.RowKit Go.Own Go.Own.Fr Go.Maps Go.WideMaps
theorem Jb.cells{W:World}{g:Nat}{a b c d:Value}(h:Jb W g #[a,b,c,d]):W.cell? ⟨g,0,none⟩=some a∧W.cell? ⟨g,1,none⟩=some b∧W.cell? ⟨g,2,none⟩=some c∧W.cell? ⟨g,3,none⟩=some d:=by
 have c0:=cell_at h 0
 have c1:=cell_at h 1
 have c2:=cell_at h 2
 have c3:=cell_at h 3
 simp only[List.getElem?_toArray,List.getElem?_cons_zero,List.getElem?_cons_succ]at c0 c1 c2 c3
 exact⟨c0,c1,c2,c3⟩
theorem Sb.cells{w W:World}{a b c d e:Value}(h:Sb w #[a,b,c,d,e] W):W.cell? ⟨w.heap.size,0,none⟩=some a∧W.cell? ⟨w.heap.size,1,none⟩=some b∧W.cell? ⟨w.heap.size,2,none⟩=some c∧W.cell? ⟨w.heap.size,3,none⟩=some d∧W.cell? ⟨w.heap.size,4,none⟩=some e:=by
 have c0:=cell_at h.a 0
 have c1:=cell_at h.a 1
 have c2:=cell_at h.a 2
 have c3:=cell_at h.a 3
 have c4:=cell_at h.a 4
 simp only[List.getElem?_toArray,List.getElem?_cons_zero,List.getElem?_cons_succ]at c0 c1 c2 c3 c4
 exact⟨c0,c1,c2,c3,c4⟩
theorem StrRow.put{w w':World}{v:Value}{ts:List ByteArray}{g:Nat}(h:StrRow w v ts)(hg:w.grownBy w' (some g))(hne:∀o s,w.cell? ⟨g,o,none⟩≠some (.string s)):StrRow w' v ts:=by
 obtain⟨p,cap,h1,h2,h3⟩:=h
 refine⟨p,cap,h1,h2,fun j s hs=>?_⟩
 obtain⟨b,o,e1,e2,e3⟩:=h3 j s hs
 refine⟨b,o,e1,Nat.lt_of_lt_of_le e2 hg.size,?_⟩
 rw[World.cell?_of_block (w:=w) (hg.block b e2 (fun e=>by
  have:=Option.some.inj e
  subst this
  exact hne _ _ e3))]
 exact e3
theorem Sb.nostr{w W:World}{A:Array Value}(h:Sb w A W)(o:Nat)(s:ByteArray):W.cell? ⟨w.heap.size+1,o,none⟩≠some (.string s):=by
 rw[cell_at h.b o]
 match o with
 |0=>simp
 |1=>simp
 |2=>simp
 |3=>simp
 |4=>simp
 |o+5=>simp
theorem PRowT.put{w w':World}{v:Value}{D:List Pr}{T g:Nat}(h:PRowT w v D T)(hT:T≤g)(hg:w.grownBy w' (some g))(hne:∀o s,w.cell? ⟨g,o,none⟩≠some (.string s)):PRowT w' v D T:=by
 obtain⟨p,cap,h1,h2,h3⟩:=h
 refine⟨p,cap,h1,h2,fun j x hx=>?_⟩
 obtain⟨b,o,c0,c1,c2,c3,c4,e1,e2,e3,g0,g1,g2,g3,g4,g5,g6⟩:=h3 j x hx
 have hb:w'.heap[b]?=w.heap[b]?:=hg.block b e2 (fun e=>by
  have:=Option.some.inj e
  subst this
  exact hne _ _ g0)
 have hk:∀i,w'.cell? ⟨b,i,none⟩=w.cell? ⟨b,i,none⟩:=fun i=>World.cell?_of_block (w:=w) hb
 exact⟨b,o,c0,c1,c2,c3,c4,e1,Nat.lt_of_lt_of_le e2 hg.size,e3,(hk _).trans g0,(hk _).trans g1,(hk _).trans g2,(hk _).trans g3,(hk _).trans g4,(hk _).trans g5,g6.keep (fun _ h _=>h) hg.size (fun k hk2 hlt=>hg.block k hlt (fun e=>by have:=Option.some.inj e;omega))⟩
theorem OwnPr.sb{S:Nat→Prop}{w:World}{B T n c:Nat}{p:Option Addr}{D:List Pr}(h:OwnPr w B T (.slice p n c) D)(hS:∀k,B≤k→S k):SB S w p:=by
 obtain⟨l,_,⟨_,h2⟩,_⟩:=h
 rcases h2 with⟨e,_⟩ | ⟨g,cap,cur,e,hb,hg,_⟩
 ·simp only[Value.slice.injEq]at e
  rw[e.1];exact SB.none S w
 ·simp only[Value.slice.injEq]at e
  intro a ha
  rw[e.1]at ha
  rw[←Option.some.inj ha]
  exact⟨hS g hb,(Array.getElem?_eq_some_iff.1 hg).1⟩
set_option maxRecDepth 100000 in
set_option maxHeartbeats 4000000 in
theorem dcompact_any(S:Nat→Prop)(T:Nat)(m:Md)(D:List Pr)(v:Value)(w:World)(hm:m.ok)(h:DS S T w v m D)(hTw:T≤w.heap.size)(hS:∀k,w.heap.size≤k→S k)(hnl:D.length≤100000)(hpo:∀x∈D,PrOk x):Calls Tryz.prog 27 #[v] w (DComQ S T (dcompact m D) w):=by
 obtain⟨q,x,c,tq,pp,pc,rfl,hrow,htl,hD,hs1,hs2⟩:=h
 have HB1:=Lib.hid hs1
 have HB2:=Lib.hid hs2
 have HS0:=Lib.hid hS
 have HTW:=Lib.hid hTw
 have HROW:=Lib.hid hrow
 have HTL:=Lib.hid htl
 have HD:=Lib.hid hD
 have HOK:=Lib.hid hm
 have HPO:=Lib.hid hpo
 obtain⟨h0,tk,g⟩:=m
 obtain⟨n,hn⟩:∃n,D.length=n:=⟨_,rfl⟩
 have HN:=Lib.hid hn
 have HNL:=Lib.hid hnl
 simp only at HROW HTL HOK ⊢
 rw[hn]at HD ⊢
 have HS:=Lib.hid (Sb.new w #[.int .i64 (h0:Int),.slice q x c,.int .i64 (tk:Int),.int .i64 (g:Int),.slice pp n pc])
 unfold zero34 at HS
 have HAN:=Lib.hid (fun W (h:PRowT W (.slice pp n pc) D T)=>danew_any D _ W h.row hnl hpo)
 have HJA:=Lib.hid (fun (v u:Value) W (hw:w.heap.size≤W.heap.size) (h:DJ S W v ⟨h0,tk,g⟩) (hu:StrRow W u (dTxs D))=>danewj_any S ⟨h0,tk,g⟩ v u (dTxs D) W hm h (fun k hk=>hS k (Nat.le_trans hw hk)) hu (dTxs_length D hnl) (dTxs_size hpo))
 obtain⟨r,hr⟩:∃r,Md.anew ⟨h0,tk,g⟩ ((dTxs D).map ByteArray.size)=r:=⟨_,rfl⟩
 have HR:=Lib.hid hr
 rw[hr]at HJA
 obtain⟨⟨rh,rt,rg⟩,rc⟩:=r
 clear hn hnl hm hpo hrow htl hD hr hs1 hs2 hS hTw
 go_enter Tryz.func27,Tryz.ntmps27
 go_wp2_with fail
 refine(HAN.out _ (HD.out.below HTW.out HS.out.be)).mono ?_
 rintro e w1 ⟨tu,rfl,hto,hb1⟩
 have HTO:=Lib.hid hto.strs
 replace HS:=Lib.hid (HS.out.below hb1)
 obtain⟨a0,a1,a2,a3,a4⟩:=HS.out.cells
 obtain⟨tp,tc,htu⟩:=hto.form
 obtain⟨tn,htn⟩:∃tn,(dTxs D).length=tn:=⟨_,rfl⟩
 rw[htn]at htu
 subst htu
 clear hb1 hto htn
 go_wp2_with fail
 refine(HJA.out _ _ _ HS.out.be.size ⟨q,x,c,tq,rfl,HROW.out.below HS.out.be,HTL.out,HB1.out.up HS.out.be.size⟩ HTO.out).mono ?_
 rintro e w2 ⟨jv,rfl,⟨jq,jx,jc,jts,rfl,hj1,hj2,hj3⟩,hb2⟩
 clear a0 a1 a2 a3 a4
 simp only at hj1 hj2 ⊢
 have HS2:=HS.out.below hb2
 replace HS:=Lib.hid (HS2.below (below_new w2 (.cells #[.int .i64 (rh:Int),.slice jq jx jc,.int .i64 (rt:Int),.int .i64 (rg:Int)] 31)))
 have HJ:=Lib.hid (Jb.new w2 #[.int .i64 (rh:Int),.slice jq jx jc,.int .i64 (rt:Int),.int .i64 (rg:Int)])
 have HJ1:=Lib.hid (StrRow.below hj1 (below_new w2 (.cells #[.int .i64 (rh:Int),.slice jq jx jc,.int .i64 (rt:Int),.int .i64 (rg:Int)] 31)))
 have HJ2:=Lib.hid hj2
 have HJ3:=Lib.hid (hj3.up (below_new w2 (.cells #[.int .i64 (rh:Int),.slice jq jx jc,.int .i64 (rt:Int),.int .i64 (rg:Int)] 31)).size)
 obtain⟨a0,a1,a2,a3,a4⟩:=HS.out.cells
 clear hj1 hj2 hj3 hb2 HS2
 by_cases hc:rc=0
 ·subst hc
  have HQ:Hid (dcompact ⟨h0,tk,g⟩ D=((⟨rh,rt,rg⟩,D),0)):=Lib.hid (by unfold dcompact;rw[HR.out];rfl)
  have I0:=Lib.hid (show (Tryz.prog.info? 34).map (·.size)=some (#[.int .i64 (rh:Int),.slice jq jx jc,.int .i64 (rt:Int),.int .i64 (rg:Int),.slice pp n pc]:Array Value).size from i34)
  have I1:=Lib.hid (show (#[.int .i64 0,.slice none 0 0,.int .i64 0,.int .i64 0,.slice none 0 0]:Array Value).size=(#[.int .i64 (rh:Int),.slice jq jx jc,.int .i64 (rt:Int),.int .i64 (rg:Int),.slice pp n pc]:Array Value).size from rfl)
  have I2:=Lib.hid (show (#[.int .i64 (rh:Int),.slice jq jx jc,.int .i64 (rt:Int),.int .i64 (rg:Int),.slice pp n pc]:Array Value).all (·.oneCell')=true by simp[Value.oneCell'])
  go_wp2_with (with_reducible refine wpList_put 34 (w.heap.size+1) _ _ rfl rfl HS.out.b I0.out I1.out I2.out ?_)
  intro w9 hg hgr
  have HG:=Lib.hid hg
  have HB:=Lib.hid (below_put HS.out.be hgr HS.out.be.size (Nat.le_succ _))
  have HJ9:Hid (StrRow w9 (.slice jq jx jc) jts):=Lib.hid (HJ1.out.put hgr HS.out.nostr)
  have HJ93:=Lib.hid (HJ3.out.up hgr.size)
  clear hg hgr
  go_wp2
  refine bodyPost_ret (v:=.tuple #[.agg #[.int .i64 (rh:Int),.slice jq jx jc,.int .i64 (rt:Int),.int .i64 (rg:Int),.slice pp n pc],.int .i64 0]) (res2 Tryz.results27 _ _ _ (w.heap.size+1) _ _ rfl rfl (ld34 HG.out)) rfl ?_
  rw[HQ.out]
  exact⟨_,rfl,⟨jq,jx,jc,jts,pp,pc,by rw[HN.out],HJ9.out,HJ2.out,by rw[HN.out];exact HD.out.below HTW.out HB.out,HJ93.out,HB2.out.up HB.out.size⟩,HB.out⟩
 ·have hci:¬(rc:Int)=0:=by omega
  have hcb:((rc:Int) != 0)=true:=by simpa using hci
  have HQ:Hid (dcompact ⟨h0,tk,g⟩ D=((⟨h0,tk,g⟩,D),(rc:Int))):=Lib.hid (by unfold dcompact;rw[HR.out];simp only;rw[if_neg hc])
  have I0:=Lib.hid (show (Tryz.prog.info? 34).map (·.size)=some (#[.int .i64 (h0:Int),.slice q x c,.int .i64 (tk:Int),.int .i64 (g:Int),.slice pp n pc]:Array Value).size from i34)
  have I1:=Lib.hid (show (#[.int .i64 0,.slice none 0 0,.int .i64 0,.int .i64 0,.slice none 0 0]:Array Value).size=(#[.int .i64 (h0:Int),.slice q x c,.int .i64 (tk:Int),.int .i64 (g:Int),.slice pp n pc]:Array Value).size from rfl)
  have I2:=Lib.hid (show (#[.int .i64 (h0:Int),.slice q x c,.int .i64 (tk:Int),.int .i64 (g:Int),.slice pp n pc]:Array Value).all (·.oneCell')=true by simp[Value.oneCell'])
  go_wp2_with (with_reducible refine wpList_put 34 (w.heap.size+1) _ _ rfl rfl HS.out.b I0.out I1.out I2.out ?_)
  intro w9 hg hgr
  have HG:=Lib.hid hg
  have HB:=Lib.hid (below_put HS.out.be hgr HS.out.be.size (Nat.le_succ _))
  clear hg hgr
  clear a0 a1 a2 a3 a4
  go_wp2
  refine bodyPost_ret (v:=.tuple #[.agg #[.int .i64 (h0:Int),.slice q x c,.int .i64 (tk:Int),.int .i64 (g:Int),.slice pp n pc],.int .i64 (rc:Int)]) (res2 Tryz.results27 _ _ _ (w.heap.size+1) _ _ rfl rfl (ld34 HG.out)) rfl ?_
  rw[HQ.out]
  exact⟨_,rfl,⟨q,x,c,tq,pp,pc,by rw[HN.out],HROW.out.below HB.out,HTL.out,by rw[HN.out];exact HD.out.below HTW.out HB.out,HB1.out.up HB.out.size,HB2.out.up HB.out.size⟩,HB.out⟩
end Go.Proofs.YtlogjpmdfimgdaaGreatDoor

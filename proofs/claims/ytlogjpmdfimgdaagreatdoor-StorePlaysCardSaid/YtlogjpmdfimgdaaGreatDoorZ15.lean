/- A write waits: by contract. No condition but that it is a sector's, and fewer than 2^40 wait. -/
import Derived.Test.YtlogjpmdfimgdaaGreatDoorZ14
import Derived.Deep.RegionLaw
namespace Go.Proofs.YtlogjpmdfimgdaaGreatDoor.Jf
open Go.RowKit Go.Own.Jf
section
variable{P:Program}{T:TypeId}{b:Nat}{W:World}{a:Nat}{x:List Nat}{ty:TypeId}{f:Nat×Nat}
theorem ldW(hx:x.length=64)(h1:aggSize P T=some 65)(h2:blk W b=some (.cells (wv a x) ty f)):ldX P T (some 65) (some (.cells (wv a x) ty f)) b 0 W=.ok (.agg (wv a x)) W:=by
 rw[ldX_mix h1 h2 (by rw[wv_size];omega),Nat.zero_add,show 65=(wv a x).size by rw[wv_size,hx],Array.extract_size]
theorem ldW0(ha:(isAgg T).run P W=.ok false W)(h2:blk W b=some (.cells (wv a x) ty f)):ldX P T none (some (.cells (wv a x) ty f)) b 0 W=.ok (.int .i64 (a:Int)) W :=
 ldX_mix1 ha h2 (by rw[←Array.getElem?_toList,wv_list];rfl)
theorem wv_data(hx:x.length=64):(wv a x).extract 1 (1+64)=cv .u8 x:=by
 apply Array.ext'
 rw[Array.toList_extract,wv_list,List.extract_eq_take_drop]
 show ((cv .u8 x).toList).take 64=_
 rw[List.take_of_length_le (by rw[Array.length_toList,cv_size,hx];exact Nat.le_refl _)]
theorem ldW1(hx:x.length=64)(h1:aggSize P T=some 64)(h2:blk W b=some (.cells (wv a x) ty f)):ldX P T (some 64) (some (.cells (wv a x) ty f)) b 1 W=.ok (.agg (cv .u8 x)) W:=by
 rw[ldX_mix h1 h2 (by rw[wv_size];omega),wv_data hx]
end
def bsN(T:TypeId)(n:Nat)(parts:Array (Nat×Value)):Sem Value:=Instr.buildSlice T n parts
@[go_sem ↓] theorem execOp_bs(ρ:Operand→Value)(dst:Option Tmp)(T:TypeId)(n:Nat)(parts:Array (Nat×Operand))(ty:TypeId)(pos:String)(after:Array Edge)(guard:Option (Nat×Bool)) :
  execOp ρ { dst,op:=.buildSlice T n parts,type:=ty,pos,after,guard }=(bsN T n (parts.map fun (i,x)=>(i,ρ x)) >>= fun v=>pure (.value v)):=rfl
theorem stD3s{P:Program}{T:TypeId}{vs vl vw:Value}{n:Nat}{a:Int}{k:Nat}{t:Int}{o:Bool}{ty:TypeId}{w:World}{l:List Obj}{d i m:Nat}(h1:(sizeOf T).run P (Wd w l d)=.ok 1 (Wd w l d))(h2:l[i]?=some (.cells (dc vs vl vw n a k t o) ty (0,0))) :
  stX P T 1 (some (.cells (dc vs vl vw n a k t o) ty (0,0))) w l d i 3 (.int .i64 ((m:Int)+1))=.ok () (Wd w (l.set i (.cells (dc vs vl vw (m+1) a k t o) ty (0,0))) d):=by
 rw[stX_mix1 h1 rfl h2 (by rw[dc_size];omega)];rfl
theorem stD2v{P:Program}{T:TypeId}{vs vl vw v:Value}{n:Nat}{a:Int}{k:Nat}{t:Int}{o:Bool}{ty:TypeId}{w:World}{l:List Obj}{d i:Nat}(h1:(sizeOf T).run P (Wd w l d)=.ok 1 (Wd w l d))(hv:v.oneCell'=true)(h2:l[i]?=some (.cells (dc vs vl vw n a k t o) ty (0,0))) :
  stX P T 1 (some (.cells (dc vs vl vw n a k t o) ty (0,0))) w l d i 2 v=.ok () (Wd w (l.set i (.cells (dc vs vl v n a k t o) ty (0,0))) d):=by
 rw[stX_mix1 h1 hv h2 (by rw[dc_size];omega)];rfl
theorem RowV.one{A:Nat→Prop}{w:World}{l:List Obj}{sz n:Nat}{v:Value}{C:List Value}(h:RowV A w l sz n v C):v.oneCell'=true:=by
 rcases h with⟨rfl,_⟩ | ⟨_,_,_,_,_,rfl,_⟩ <;> rfl
theorem RowV.notAt{A:Nat→Prop}{w:World}{l:List Obj}{sz n:Nat}{v:Value}{C:List Value}(h:RowV A w l sz n v C){p:Nat}(hp:¬A p):NotAt w v p:=by
 rcases h with⟨rfl,_⟩ | ⟨i,c,X,t,hA,rfl,_⟩
 ·intro n c e;simp at e
 ·intro n' c' e
  simp at e
  exact hp (e.1▸hA)
theorem bs_one{P:Program}{T E n:Nat}{z c:Array Value}(hT:P.underlying T=some (.slice E))(hs:∀W,(sizeOf E).run P W=.ok n W)(hz:zeroOf P E=.agg z)(hn:0<n∧n≤1000)(hc:c.size=n)(w:World)(l:List Obj)(d:Nat) :
  (bsN T 1 #[(0,.agg c)]).run P (Wd w l d)=.ok (.slice (some ⟨w.heap.size+l.length,0,none⟩) 1 1) (Wd w (l++[.cells c E (0,0)]) d):=by
 have hmap:((Array.range (1*n)).map (fun i=>z[i%z.size]!)).size=n:=by simp
 generalize hA:(Array.range (1*n)).map (fun i=>z[i%z.size]!)=A at hmap
 have hf:=foldl_set 0 c.toList 0 A (by simp;omega)
 have hfill:Instr.fill (fun i=>some (i*n,n)) A [(0,.agg c)]=some c:=by
  unfold Instr.fill
  simp only[Value.cells,hc,Nat.zero_mul,Nat.zero_add]
  rw[if_neg (by simp;omega)]
  unfold Instr.fill
  have e:c.zipIdx.foldl (fun cs (c,j)=>cs.setIfInBounds (0+j) c) A=c:=by
   rw[←Array.foldl_toList,Array.toList_zipIdx,hf]
   apply Array.ext'
   simp only[Nat.add_zero,List.take_zero,List.nil_append,Nat.zero_add]
   rw[List.drop_of_length_le (by simp;omega),List.append_nil]
  simp only[Nat.zero_add]at e
  rw[e]
 have h0:¬n=0:=by omega
 have h24:¬16777216<n:=by omega
 have hA':(Array.range n).map (fun i=>z[i%z.size]!)=A:=by rw[←hA,Nat.one_mul]
 unfold bsN Instr.buildSlice
 simp[run_underlying hT,hs,h0,h24,run_zeroOf hz,Value.cells,hA',hfill,newRow,Wd_size,Wd_alloc]
theorem rt64:RowT Tryz.prog 102 222 65:=⟨Tryz.underlying102,by
 cases hi:Tryz.prog.info? 222 with
 |none=>exact absurd hi (by
   have:(Tryz.prog.info? 222).isSome=true:=by kernel_rfl
   intro e;rw[e]at this;cases this)
 |some i =>
  have h:=show (Tryz.prog.info? 222).map (fun i=>(i.zero.map fun z=>z.cells.size,i.size,decide (i.bytes≤1048576)))=some (some 65,65,true) by kernel_rfl
  rw[hi]at h
  simp at h
  obtain⟨⟨z,hz,hzc⟩,hs,hb⟩:=h
  exact⟨i,z,rfl,hz,hs,hzc,hb⟩⟩
theorem bs64(a:Nat)(x:List Nat)(hx:x.length=64)(w:World)(l:List Obj)(d:Nat):(bsN 102 1 #[(0,.agg (wv a x))]).run Tryz.prog (Wd w l d)=.ok (.slice (some ⟨w.heap.size+l.length,0,none⟩) 1 1) (Wd w (l++[.cells (wv a x) 222 (0,0)]) d) :=
 bs_one Tryz.underlying102 sz222 z222 (by decide) (by rw[wv_size,hx]) w l d
attribute [local go_sem] stD2v bs64 stD3s ldW ldW0 ldW1 set_same app_left set_left at_mid' set_mid' List.getElem?_set_ne
set_option maxRecDepth 100000 in
set_option maxHeartbeats 1000000 in
theorem wait_any(w:World)(l:List Obj)(d i s q:Nat)(vw:Value)(O:Nat→Prop)(M:Dk)(a:Nat)(x:List Nat)(h:DAt w l i s q vw O M)(ha:a<M.n)(hx:x.length=64)(hB:B8 x)(hc:M.count<1099511627776)(hO:∀p,O p→p<l.length) :
  Calls Tryz.prog 137 #[.pointer (some ⟨w.heap.size+i,0,none⟩),.agg (wv a x)] (Wd w l d) fun e w'=>e=.returned (.tuple #[])∧∃l' d' vw',w'=Wd w l' d'∧DAt w l' i s q vw' O (M.waited a x)∧Kp O l l':=by
 have hd:=h.hd
 have hs:=h.hs
 have hq:=h.hq
 have is:=h.is
 have iq:=h.iq
 have sq:=h.sq
 have si:=h.is.symm
 have qi:=h.iq.symm
 have qs:=h.sq.symm
 have hsl:=h.ok.seenL
 have hfit:a*64+64≤M.n*64:=by omega
 have hai:(a:Int)<M.n:=by omega
 have H:=Lib.hid h
 have HO:=Lib.hid hO
 clear h hO
 obtain⟨n,seen,last,wait,count,cat,keep,torn,off⟩:=M
 simp only at hd hs hq hsl hfit hai ha hc
 have HA:Hid (∀p,l.length≤p→¬O p∧p≠i∧p≠s∧p≠q):=Lib.hid fun p hp=>by
  have li:=(List.getElem?_eq_some_iff.1 hd).1
  have ls:=(List.getElem?_eq_some_iff.1 hs).1
  have lq:=(List.getElem?_eq_some_iff.1 hq).1
  exact⟨fun h=>by have:=HO.out p h;omega,by omega,by omega,by omega⟩
 by_cases h64:count<64
 ·have HW:Hid (∀X g,RowV (fun p=>¬O p∧p≠i∧p≠s∧p≠q) w (l.set s X++g) 65 wait.length vw (wcs wait)):=Lib.hid fun X g =>
   (H.out.hw.mono fun p hp _=>⟨hp,List.getElem?_set_ne hp.2.2.1.symm⟩).more g
  have hwl:wait.length+1≤1048576:=by
   have:=H.out.ok.waitL
   simp only at this
   omega
  have HWL:=Lib.hid hwl
  clear hwl
  go_enter Tryz.func137,Tryz.ntmps137
  go_wp2
  refine wp_region_tail 9 (by kernel_rfl) (by kernel_rfl) ?_
  simp only[List.take_succ_cons,List.take_zero,List.drop_succ_cons,List.drop_zero]
  repeat still_step
  refine wpStill_nil ?_
  go_wp2
  go_region_law (refine step_row rfl (.tmp 22) (.tmp 24) 102 222 rfl rt64 (A:=fun p=>¬O p∧p≠i∧p≠s∧p≠q) (B:=fun _=>True) (fun p hp=>HA.out p (by simp at hp;omega)) vw wait.length (wcs wait) rfl (by first | exact HW.out _ _ | (rw[List.append_assoc];exact HW.out _ _)) (.slice (some ⟨w.heap.size+(l.length+1),0,none⟩) 1 1) 1 (wv a x).toList rfl (.inr ⟨l.length+1,1,(wv a x).toList,222,trivial,rfl,at_next (List.length_set ..),by rw[Array.length_toList,wv_size,hx],by decide,List.take_of_length_le (by rw[Array.length_toList,wv_size,hx];decide)⟩) (wv_one a x) HWL.out ?_;intro v' l' d' H1 H2 H3;have hv1:=RowV.one H1.out;have hl1:=(H3.out i (List.getElem?_eq_some_iff.1 (app_some (set_other si hd))).1 (RowV.notAt H.out.hw (fun h=>h.2.1 rfl))).trans (app_some (set_other si hd)))
  all_goals
   have HS1:=Lib.hid ((H3.out s (List.getElem?_eq_some_iff.1 (app_some (set_some hs))).1 (RowV.notAt H.out.hw (fun h=>h.2.2.1 rfl))).trans (app_some (set_some hs)))
   have HQ1:=Lib.hid ((H3.out q (List.getElem?_eq_some_iff.1 (app_some (set_other sq hq))).1 (RowV.notAt H.out.hw (fun h=>h.2.2.2 rfl))).trans (app_some (set_other sq hq)))
   have HK1:Hid (Kp O l l'):=Lib.hid ⟨by have:=H2.out;simp at this;omega,fun p hp hlt=>by
    have hne:s≠p:=fun e=>by subst e;exact H.out.Os hp
    rw[H3.out p (by simp;omega) (RowV.notAt H.out.hw (fun h=>h.1 hp)),List.getElem?_append_left (by simpa using hlt),List.getElem?_set_ne hne]⟩
   go_wp2
   go_end0
   refine⟨rfl,_,_,v',rfl,?_,HK1.out.trans (Kp.set H.out.Oi _)⟩
   have HM:({ n:=n,seen:=seen,last:=last,wait:=wait,count:=count,cat:=cat,keep:=keep,torn:=torn,off:=off }:Dk).waited a x={ n:=n,seen:=spl seen (a*64) x,last:=last,wait:=wait++[(a,x)],count:=count+1,cat:=cat,keep:=keep,torn:=torn,off:=off }:=by unfold Dk.waited;rw[if_pos h64]
   have hok:=H.out.ok.waited (a:=a) (x:=x) ha hx hB
   rw[HM]at hok ⊢
   refine⟨set_some hl1,set_other is HS1.out,set_other iq HQ1.out,?_,is,iq,sq,H.out.Oi,H.out.Os,H.out.Oq,hok⟩
   have hw':=H1.out.mono (l':=l'.set i (.cells (dc (.slice (some ⟨w.heap.size+s,0,none⟩) n n) (.slice (some ⟨w.heap.size+q,0,none⟩) n n) v' (count+1) cat keep torn off) 104 (0,0))) (B:=fun p=>¬O p∧p≠i∧p≠s∧p≠q) fun p hp _=>⟨hp,List.getElem?_set_ne hp.2.1.symm⟩
   rw[List.length_append,wcs_append,wcs_one]
   exact hw'
 ·have h64':¬(count:Int)<64:=by omega
  have HM:Hid (({ n:=n,seen:=seen,last:=last,wait:=wait,count:=count,cat:=cat,keep:=keep,torn:=torn,off:=off }:Dk).waited a x={ n:=n,seen:=spl seen (a*64) x,last:=last,wait:=wait,count:=count+1,cat:=cat,keep:=keep,torn:=torn,off:=off }):=Lib.hid (by unfold Dk.waited;rw[if_neg h64])
  go_enter Tryz.func137,Tryz.ntmps137
  go_wp2
  refine wp_region_tail 9 (by kernel_rfl) (by kernel_rfl) ?_
  simp only[List.take_succ_cons,List.take_zero,List.drop_succ_cons,List.drop_zero]
  repeat still_step
  refine wpStill_nil ?_
  go_wp2
  go_end0
  refine⟨rfl,_,_,vw,rfl,?_,((Kp.set H.out.Os _).trans (Kp.set H.out.Oi _)).trans (Kp.app _ _ _)⟩
  rw[HM.out]
  have hok:=H.out.ok.waited (a:=a) (x:=x) ha hx hB
  rw[HM.out]at hok
  refine⟨app_some (set_some (set_other si hd)),app_some (set_other is (set_some hs)),app_some (set_other iq (set_other sq hq)),(H.out.hw.mono fun p hp _=>⟨hp,?_⟩).more _,is,iq,sq,H.out.Oi,H.out.Os,H.out.Oq,hok⟩
  rw[List.getElem?_set_ne hp.2.1.symm,List.getElem?_set_ne hp.2.2.1.symm]
end Go.Proofs.YtlogjpmdfimgdaaGreatDoor.Jf

/- A journal made anew: by contract. No condition but the sizes, and that the disk counts little. | A region that draws its order: its first operations by properties that last, and by what holds of two of them; its last ones one by one. No condition. -/
import Derived.Test.YtlogjpmdfimgdaaGreatDoorZ26
import Derived.Test.YtlogjpmdfimgdaaGreatDoorZ20
namespace Go.Proofs.YtlogjpmdfimgdaaGreatDoor.Jf
open Go Go.RowKit Go.Own.Jf Go.Own.Fr
def TxAt(w:World)(l:List Obj)(v:Value)(bs:List ByteArray):Prop :=
 ∃q c,v=.slice q bs.length c∧(bs≠[]→∃b o X T f,q=some ⟨b,o,none⟩∧(∀L d,(∀p,p<l.length→L[p]?=l[p]?)→blk (Wd w L d) b=some (.cells X T f))∧∀(k:Nat) s,bs[k]?=some s→X[o+k]?=some (.string s))
attribute [-go_sem] Sm.execOp_bs run_string_add_if
attribute [local go_sem] agj61 csj61 szj61 agj64 csj64 szj64 agj25 isaj25 csj25 szj25 agj9 isaj9 csj9 szj9 agj32 isaj32 csj32 szj32 agj38 isaj38 csj38 szj38 agj78 isaj78 csj78 szj78 ldJA ldJ6 ldJ3 sz4 isa4 ag4 zj61 alXA ldH0 ldH1 ldH2 ldH3 ldH4 ldH5 ldHA stH3 stHAp stHAv bsj32s ldX_mix1 bsj84
set_option maxRecDepth 100000 in
set_option maxHeartbeats 8000000 in
theorem anew_on(w:World)(hR:Sm.Roots w)(l:List Obj)(d jo i sd q:Nat)(vw:Value)(O A:Nat→Prop)(J:Jn)(vt:Value)(M:Dk)(h:JAt w l jo i A J vt)(hD:DAt w l i sd q vw O M)(hO:∀p,O p→p<l.length)(hjO:O jo)(hAO:∀p,A p→O p)(hfs:J.now.first≤J.now.size)(v:Value)(bs:List ByteArray)(hv:TxAt w l v bs)(hbs:bs.length≤100000)(hoff:J.off=false)(hgen:J.now.gen≠1099511627776)(hc:M.count<1000000000000) :
  Calls Tryz.prog 63 #[.pointer (some ⟨w.heap.size+jo,0,none⟩),v] (Wd w l d) fun e w'=>AppQ w l jo i sd q O A (J.anew M (bs.map bys)) e w':=by
 obtain⟨now,off⟩:=J
 obtain⟨fi,n,g,u,ts⟩:=now
 obtain rfl:off=false:=hoff
 obtain⟨vq,vc,rfl,hvx⟩:=hv
 have hj:=h.cells
 have hok:=h.ok
 simp only at hj
 have hfi:fi≤4096:=hok.first
 have hn:n≤4096:=hok.size
 have hg:g≤1099511627776:=hok.gen
 have hg2:¬(g:Int)=1099511627776:=by
  have:g≠1099511627776:=hgen
  omega
 obtain⟨N,hN⟩:∃N,bs.length=N:=⟨_,rfl⟩
 obtain⟨tq,tc,rfl⟩:=h.row.form
 rw[hN]at hbs ⊢
 have HVX:=Lib.hid hvx
 have HD:=Lib.hid hD
 have HO:=Lib.hid hO
 have HAO:=Lib.hid hAO
 have HJO:=Lib.hid hjO
 have HH:=Lib.hid h
 have HJ:=Lib.hid hj
 have HN:=Lib.hid hN
 have HFS:Hid (fi≤n):=Lib.hid hfs
 clear hvx hD hO hAO hjO h hok hgen hN hfs
 go_enter Tryz.func63,Tryz.ntmps63
 refine wp_seq_k fun K1 hK1=>?_
 have HK1:=Lib.hid hK1
 clear hK1
 go_wp2
 refine HK1.out _ _ ?_
 clear HK1
 refine wp_seq_k fun K2 hK2=>?_
 have HK2:=Lib.hid hK2
 clear hK2
 go_wp2
 refine HK2.out _ _ ?_
 clear HK2
 refine wp_seq_k fun K3 hK3=>?_
 have HK3:=Lib.hid hK3
 clear hK3
 go_wp2
 refine HK3.out _ _ ?_
 clear HK3
 refine wp_seq_k fun K hK=>?_
 have HK:=Lib.hid hK
 clear hK
 have hpost:∀(x10 x11 x12 x13 x14 x15 x16 x17 x18 x19 x20 x21 x22 x23:Value) (b o c N1:Nat) (X:Array Value) (T:TypeId) (f:Nat×Nat) (bs1:List ByteArray) (L0:List Obj) (d0:Nat),bs1.length=N1→1≤N1→N1≤100000→(l.length≤L0.length∧∀p,p<l.length→L0[p]?=l[p]?)→(∀L d,(∀p,p<L0.length→L[p]?=L0[p]?)→blk (Wd w L d) b=some (.cells X T f))→(∀(k:Nat) s,bs1[k]?=some s→X[o+k]?=some (.string s))→bs1.map bys=someL (bs.map bys)→K ({ tmps:=#[.pointer (some ⟨w.heap.size+jo,0,none⟩),.slice (some ⟨b,o,none⟩) N1 c,undef,undef,.int .i64 0,undef,undef,undef,undef,undef,x10,x11,x12,x13,x14,x15,x16,x17,x18,x19,x20,x21,x22,x23,undef,undef,undef,undef,undef,undef,undef,undef,undef,undef,undef,undef,undef,undef,undef,undef,undef,undef,undef,undef,undef,undef,undef,undef,undef,undef,undef,undef,undef,undef,undef,undef,undef,undef,undef,undef,undef,undef,undef,undef,undef,undef,undef,undef,undef,undef,undef,undef,undef,undef,undef],defers:=[] }) (Wd w L0 d0):=by
  intro x10 x11 x12 x13 x14 x15 x16 x17 x18 x19 x20 x21 x22 x23 b o c N1 X T f bs1 L0 d0 hN1 h1N hN1b hL0 hX hXs hbs1
  refine HK.out _ _ ?_
  clear HK
  obtain⟨fo,hfo⟩:∃fo,n-fi=fo:=⟨_,rfl⟩
  have hfob:fo≤4096:=by omega
  obtain⟨G,hG⟩:∃G,g+1=G:=⟨_,rfl⟩
  have hGi:(g:Int)+1=(G:Int):=by omega
  have hGb:G≤1099511627777:=by omega
  have hGw:IntKind.u64.wrap (G:Int)=(G:Int):=by
   simp only[IntKind.wrap,IntKind.bits,IntKind.signed];simp;omega
  have HOT:=Lib.hid fun W=>other_any (some ⟨w.heap.size+i,0,none⟩) (.slice tq ts.length tc) fi n g u (by omega) HFS.out W
  rw[hfo]at HOT
  have hj0:L0[jo]?=some (.cells (jcl (.pointer (some ⟨w.heap.size+i,0,none⟩)) fi n g (.slice tq ts.length tc) u false) 110 (0,0)):=by rw[hL0.2 jo (HO.out _ HJO.out)];exact HJ.out
  have HL0:=Lib.hid hL0
  have HX:=Lib.hid hX
  have HXS:=Lib.hid hXs
  have HN1:=Lib.hid hN1
  have HBS1:=Lib.hid hbs1
  have HFO:=Lib.hid hfo
  have HG:=Lib.hid hG
  have H1N:=Lib.hid h1N
  clear hL0 hX hXs hN1 hbs1 hj hfo hG h1N
  go_wp2_with fail
  refine(HOT.out _).mono ?_
  rintro e w' ⟨rfl,g1,d1,rfl⟩
  rw[Wd_wd]
  have hj1:∀Z,(L0++g1++[Z])[jo]?=some (.cells (jcl (.pointer (some ⟨w.heap.size+i,0,none⟩)) fi n g (.slice tq ts.length tc) u false) 110 (0,0)):=fun Z=>by rw[List.append_assoc];exact app_some hj0
  have HL1:Hid (L0.length≤(L0++g1).length∧∀p,p<L0.length→(L0++g1)[p]?=L0[p]?):=Lib.hid ⟨by rw[List.length_append];omega,fun p hp=>List.getElem?_append_left hp⟩
  obtain⟨L1,hL1⟩:∃L1,L0++g1=L1:=⟨_,rfl⟩
  rw[hL1]at hj1 HL1 ⊢
  clear hL1 hj0 HOT
  go_wp2_with fail
  obtain⟨L2,hL2⟩:∃L2,L1++[Obj.cells (hcl (.pointer (some ⟨w.heap.size+i,0,none⟩)) fo n G (.slice none 0 0) 0) 107 (0,0)]=L2:=⟨_,rfl⟩
  have HB5L:Hid (L2[L1.length]?=some (Obj.cells (hcl (.pointer (some ⟨w.heap.size+i,0,none⟩)) fo n G (.slice none 0 0) 0) 107 (0,0))):=Lib.hid (by rw[←hL2];simp)
  have HB5:Hid (blk (Wd w L2 d1) (w.heap.size+L1.length)=some (Obj.cells (hcl (.pointer (some ⟨w.heap.size+i,0,none⟩)) fo n G (.slice none 0 0) 0) 107 (0,0))):=Lib.hid (by rw[blk_at];exact HB5L.out)
  have HL2:Hid (L2.length=L1.length+1∧∀p,p<L1.length→L2[p]?=L1[p]?):=Lib.hid (by rw[←hL2];exact⟨by simp,fun p hp=>List.getElem?_append_left hp⟩)
  rw[hL2]
  clear hL2 hj1
  have HWS:Hid (∀L d,L2.length≤L.length→Calls Tryz.prog 83 #[.agg (hcl (.pointer (some ⟨w.heap.size+i,0,none⟩)) fo n G (.slice none 0 0) 0),.int .i64 0,.string .empty] (Wd w L d) fun e W'=>∃v',e=.returned v'∧Below (Wd w L d).heap.size (Wd w L d) W'∧stB w L2.length i (.w fo []) v' W'):=Lib.hid fun L d hl=>by
   refine(write_step w L d i fo n G 0 (.slice none 0 0) 0 .empty (by omega)).mono ?_
   rintro e W' ⟨v,g',d',he,rfl,hst⟩
   exact⟨v,he,below_of _ _ _ _ _,L++g',d',rfl,hst.mono fun p hp hlt=>⟨by omega,rfl⟩⟩
  refine wp_region_fine_drop 6 (TL [eqv (.agg (hcl (.pointer (some ⟨w.heap.size+i,0,none⟩)) fo n G (.slice none 0 0) 0)),stB w L2.length i (.w fo []),eqv (.pointer (some ⟨w.heap.size+L1.length,0,none⟩)),eqv (.pointer (some ⟨w.heap.size+i,0,none⟩)),eqv (.func (.func 86) #[.pointer (some ⟨w.heap.size+i,0,none⟩)] #[]),srB w L2.length i [Stp.w fo [],Stp.f]]) (by kernel_rfl) (by kernel_rfl) (by kernel_rfl) (by kernel_rfl) (TL_last (List.forall_mem_cons.2 ⟨eqv_last _,List.forall_mem_cons.2 ⟨stB_last _ _ _ _,List.forall_mem_cons.2 ⟨eqv_last _,List.forall_mem_cons.2 ⟨eqv_last _,List.forall_mem_cons.2 ⟨eqv_last _,List.forall_mem_cons.2 ⟨srB_last _ _ _ _,fun _ h=>(List.not_mem_nil h).elim⟩⟩⟩⟩⟩⟩)) (TL_no_guard (by kernel_rfl)) ?_ ?_
  ·intro ix o ho a W hB hdep hfix
   simp only[List.take_succ_cons,List.take_zero]at ho hdep hfix
   match ix,ho with
   |0,ho =>
    obtain rfl:=Option.some.inj ho
    exact lays_eq _ rfl (exec_load (hfix 5 (by decide +kernel)) (ldHA agj61 (blk_below hB HB5.out)))
   |1,ho =>
    obtain rfl:=Option.some.inj ho
    have e1:a.tmps.getD 36 undef=.agg (hcl (.pointer (some ⟨w.heap.size+i,0,none⟩)) fo n G (.slice none 0 0) 0):=hdep 0 _ 36 rfl rfl (by decide +kernel)
    obtain⟨gS,dS,rfl⟩:=below_grows hB
    refine lays_call #[.agg (hcl (.pointer (some ⟨w.heap.size+i,0,none⟩)) fo n G (.slice none 0 0) 0),.int .i64 0,.string .empty] (by simp[Act.eval,e1];rfl) (by kernel_rfl) ((HWS.out (L2++gS) dS (by rw[List.length_append];omega)).mono ?_)
    rintro e W' ⟨z,he,hb,hs⟩
    exact⟨z,he,hb,hs⟩
   |2,ho =>
    obtain rfl:=Option.some.inj ho
    exact lays_eq _ rfl (exec_field (off:=0) (hfix 5 (by decide +kernel)) (by simp[go_sem]))
   |3,ho =>
    obtain rfl:=Option.some.inj ho
    have e1:a.tmps.getD 38 undef=.pointer (some ⟨w.heap.size+L1.length,0,none⟩):=hdep 2 _ 38 rfl rfl (by decide +kernel)
    exact lays_eq _ rfl (exec_load e1 (ldH0 (isaj25 W) (blk_below hB HB5.out)))
   |4,ho =>
    obtain rfl:=Option.some.inj ho
    have e1:a.tmps.getD 39 undef=.pointer (some ⟨w.heap.size+i,0,none⟩):=hdep 3 _ 39 rfl rfl (by decide +kernel)
    exact lays_eq _ rfl (exec_mf e1)
   |5,ho =>
    obtain rfl:=Option.some.inj ho
    have e1:stB w L2.length i (.w fo []) (a.tmps.getD 37 undef) W:=hdep 1 _ 37 rfl rfl (by decide +kernel)
    have e2:a.tmps.getD 40 undef=.func (.func 86) #[.pointer (some ⟨w.heap.size+i,0,none⟩)] #[]:=hdep 4 _ 40 rfl rfl (by decide +kernel)
    obtain⟨gS,dS,rfl⟩:=below_grows hB
    exact lays_sr2 (fun L d e=>by rw[←Wd_inj e,List.length_append];omega) e1 (show stB w L2.length i .f (a.eval (.tmp 40)) (Wd w (L2++gS) dS)from⟨_,_,rfl,e2⟩) (fun _ _ h=>h)
   |ix+6,ho=>simp at ho
  ·intro a W hB hd hsz hfix hT
   simp only[List.take_succ_cons,List.take_zero,List.drop_succ_cons,List.drop_zero]at hfix hT ⊢
   have f0:a.tmps.getD 0 undef=.pointer (some ⟨w.heap.size+jo,0,none⟩):=hfix 0 (by decide +kernel)
   have f1:a.tmps.getD 1 undef=.slice (some ⟨b,o,none⟩) N1 c:=hfix 1 (by decide +kernel)
   have f4:a.tmps.getD 4 undef=.int .i64 0:=hfix 4 (by decide +kernel)
   have f5:a.tmps.getD 5 undef=.pointer (some ⟨w.heap.size+L1.length,0,none⟩):=hfix 5 (by decide +kernel)
   have g41:srB w L2.length i [Stp.w fo [],Stp.f] (a.tmps.getD 41 undef) W:=hT 5 _ 41 rfl rfl
   rw[frame_lit a 75 hsz hd]
   clear hfix hT hsz hd
   simp only[List.range,List.range.loop,List.map]
   generalize a.tmps=t at *
   simp only[f0,f1,f4,f5]
   clear f0 f1 f4 f5
   obtain⟨gS,dS,rfl⟩:=below_grows hB
   obtain⟨vs6,L3',d3',e6,hb6,hr6,hs6⟩:=g41
   obtain rfl:=Wd_inj e6
   have HL3:Hid (L2.length≤(L2++gS).length∧∀p,p<L2.length→(L2++gS)[p]?=L2[p]?):=Lib.hid ⟨by rw[List.length_append];omega,fun p hp=>List.getElem?_append_left hp⟩
   obtain⟨L3,hL3⟩:∃L3,L2++gS=L3:=⟨_,rfl⟩
   rw[hL3]at hr6 hs6 HL3 ⊢
   generalize t.getD 41 undef=y41 at hr6 ⊢
   generalize t.getD 2 undef=y2
   generalize t.getD 3 undef=y3
   generalize t.getD 8 undef=y8
   generalize t.getD 9 undef=y9
   generalize t.getD 10 undef=y10
   generalize t.getD 11 undef=y11
   generalize t.getD 12 undef=y12
   generalize t.getD 13 undef=y13
   generalize t.getD 14 undef=y14
   generalize t.getD 15 undef=y15
   generalize t.getD 16 undef=y16
   generalize t.getD 17 undef=y17
   generalize t.getD 18 undef=y18
   generalize t.getD 19 undef=y19
   generalize t.getD 20 undef=y20
   generalize t.getD 21 undef=y21
   generalize t.getD 22 undef=y22
   generalize t.getD 23 undef=y23
   generalize t.getD 24 undef=y24
   generalize t.getD 25 undef=y25
   generalize t.getD 26 undef=y26
   generalize t.getD 27 undef=y27
   generalize t.getD 28 undef=y28
   generalize t.getD 29 undef=y29
   generalize t.getD 30 undef=y30
   generalize t.getD 31 undef=y31
   generalize t.getD 32 undef=y32
   generalize t.getD 33 undef=y33
   generalize t.getD 34 undef=y34
   generalize t.getD 35 undef=y35
   generalize t.getD 36 undef=y36
   generalize t.getD 37 undef=y37
   generalize t.getD 38 undef=y38
   generalize t.getD 39 undef=y39
   generalize t.getD 40 undef=y40
   generalize t.getD 42 undef=y42
   generalize t.getD 43 undef=y43
   generalize t.getD 44 undef=y44
   generalize t.getD 45 undef=y45
   generalize t.getD 46 undef=y46
   generalize t.getD 47 undef=y47
   generalize t.getD 48 undef=y48
   generalize t.getD 49 undef=y49
   generalize t.getD 50 undef=y50
   generalize t.getD 51 undef=y51
   generalize t.getD 52 undef=y52
   generalize t.getD 53 undef=y53
   generalize t.getD 54 undef=y54
   generalize t.getD 55 undef=y55
   generalize t.getD 56 undef=y56
   generalize t.getD 57 undef=y57
   generalize t.getD 58 undef=y58
   generalize t.getD 59 undef=y59
   generalize t.getD 60 undef=y60
   generalize t.getD 61 undef=y61
   generalize t.getD 62 undef=y62
   generalize t.getD 63 undef=y63
   generalize t.getD 64 undef=y64
   generalize t.getD 65 undef=y65
   generalize t.getD 66 undef=y66
   generalize t.getD 67 undef=y67
   generalize t.getD 68 undef=y68
   generalize t.getD 69 undef=y69
   generalize t.getD 70 undef=y70
   generalize t.getD 71 undef=y71
   generalize t.getD 72 undef=y72
   generalize t.getD 73 undef=y73
   generalize t.getD 74 undef=y74
   have HR6:=Lib.hid hr6
   have HS6:=Lib.hid hs6
   clear hr6 hs6 hb6 e6 hL3 hB
   have HB5L3:Hid (L3[L1.length]?=some (Obj.cells (hcl (.pointer (some ⟨w.heap.size+i,0,none⟩)) fo n G (.slice none 0 0) 0) 107 (0,0))):=Lib.hid (by rw[HL3.out.2 _ (by have:=HL2.out.1;omega)];exact HB5L.out)
   go_wp2_with fail
   have HB1:Hid (L0.length≤L1.length∧L1.length+1≤L3.length∧l.length≤L0.length):=Lib.hid ⟨HL1.out.1,by have h1:=HL2.out.1;have h2:=HL3.out.1;omega,HL0.out.1⟩
   have HK3:Hid (∀p,p<L0.length→L3[p]?=L0[p]?):=Lib.hid fun p hp=>by
    have h1:=HL1.out.1;have h2:=HL2.out.1
    rw[HL3.out.2 p (by omega),HL2.out.2 p (by omega),HL1.out.2 p hp]
   have HAN:Hid (∀r,(⟨⟨fi,n,g,u,ts⟩,false⟩:Jn).anew M (bs.map bys)=r↔(match (⟨fo,n,G,0,[]⟩:Hf).lays (bs1.map bys)with | none=>((⟨⟨fi,n,g,u,ts⟩,false⟩:Jn),M,6) | some (k,ls)=>(⟨⟨fi,n,g,u,ts⟩,false⟩:Jn).turn M k ([.w fo [],.f]++k.ending++ls.reverse.flatten))=r):=Lib.hid fun r=>by
    rw[HBS1.out]
    unfold Jn.anew
    rw[if_neg (by simp),if_neg (by show ¬g=1099511627776;omega),←HFO.out,←HG.out]
    exact Iff.rfl
   go_loopw [7,44] (fun v7 ix wr=>∃(k:Nat) (L:List Obj) (d:Nat) (vt5:Value) (H:Hf) (lss:List (List Stp)) (R:List Value) (css:List (List Value)),k≤N1∧ix=.int .i64 (k:Int)∧Hid (AnI w L3 L1.length i (⟨fo,n,G,0,[]⟩:Hf) bs1 k L v7 vt5 H lss R css)∧wr=Wd w L d) (fun _ ix _=>N1-(intOf ix).toNat)
   case atStart=>exact⟨0,L3,dS,.slice none 0 0,(⟨fo,n,G,0,[]⟩:Hf),[],[],[],Nat.zero_le _,rfl,Lib.hid (AnI.start HB5L3.out),rfl⟩
   case round =>
    obtain⟨k,L,d2,vt5,H,lss,R,css,hk,rfl,HI,rfl⟩:=hrel
    have hlo:=lays_ok _ _ _ _ HI.out.lays
    obtain⟨q5,c5,rfl⟩:=HI.out.rowt.form
    have hb5:=HI.out.box
    obtain⟨H1,H2,H3,U,TS⟩:=H
    obtain rfl:fo=H1:=hlo.first.symm
    obtain rfl:n=H2:=hlo.size.symm
    obtain rfl:G=H3:=hlo.gen.symm
    simp only at hb5
    have hUn:U≤n:=hlo.fits (Nat.zero_le _)
    have hTS:TS=(bs1.take k).map bys:=by have:=hlo.texts;simpa using this
    have hTl:TS.length=k:=by rw[hTS,List.length_map,List.length_take,HN1.out];omega
    have hkU:k≤U:=by have:=hlo.used;rw[List.length_map,List.length_take,HN1.out]at this;simp only at this;omega
    have hext:∀p,p<L0.length→L[p]?=L0[p]?:=fun p hp=>by
     have h1:=HB1.out
     rw[HI.out.keep.2 p (by omega) (by omega)];exact HK3.out p hp
    have HEXT:=Lib.hid hext
    have HTS:=Lib.hid hTS
    have HTL:=Lib.hid hTl
    clear hext hlo hTS hTl
    by_cases hlt:k<N1
    ·obtain⟨s,hs⟩:∃s,bs1[k]?=some s:=⟨_,List.getElem?_eq_getElem (by rw[HN1.out];exact hlt)⟩
     have hXk:X[o+k]?=some (.string s):=HXS.out k s hs
     have hblk:∀d,blk (Wd w L d) b=some (.cells X T f):=fun d=>HX.out L d HEXT.out
     have hki:(k:Int)<N1:=by omega
     obtain⟨rm,hrm⟩:∃rm,min 65535 (((n:Int)-U)*64-50)=rm:=⟨_,rfl⟩
     have HRM:=Lib.hid fun W=>room_any (.pointer (some ⟨w.heap.size+i,0,none⟩)) (.slice q5 k c5) fo n G U (by omega) (by omega) W
     rw[hrm]at HRM
     have HS:=Lib.hid hs
     have hbl:∀g',(L++g')[L1.length]?=some (Obj.cells (hcl (.pointer (some ⟨w.heap.size+i,0,none⟩)) fo n G (.slice q5 k c5) U) 107 (0,0)):=fun g'=>app_some hb5
     have hLS:=lays_step (h:=(⟨fo,n,G,0,[]⟩:Hf)) (l:=bs1.map bys) (i:=k) (t:=bys s) (k:=⟨fo,n,G,U,TS⟩) (ls:=lss) (by simp[hs]) (by rw[←List.map_take];exact HI.out.lays)
     have hrm2:(⟨fo,n,G,U,TS⟩:Hf).room=rm:=hrm
     rw[hrm2,bys_length]at hLS
     have HLS:=Lib.hid hLS
     have HRM2:=Lib.hid hrm
     clear hLS hrm hrm2 hs
     by_cases hr:rm<(s.size:Int)
     ·have HFU:=Lib.hid (HLS.out.1 hr)
      go_wp2_with fail
      refine(HRM.out _).mono ?_
      rintro e w' ⟨rfl,g7,d7,rfl⟩
      rw[Wd_wd]
      go_wp2
      go_ret
      have hpl:∀p,p<l.length→L[p]?=l[p]?:=fun p hp=>by rw[HEXT.out p (by have:=HB1.out;omega),HL0.out.2 p hp]
      obtain⟨gl,hgl⟩:=prefix_of hpl
      rw[(HAN.out _).2 (by rw[HFU.out]),hgl,List.append_assoc]
      exact appQ_same (c:=6) HH.out HD.out HO.out
     ·have HLY:Hid (∀L d,Calls Tryz.prog 61 #[.agg (hcl (.pointer (some ⟨w.heap.size+i,0,none⟩)) fo n G (.slice q5 k c5) U),.string s] (Wd w L d) fun e w'=>∃v vs g' d',e=.returned v∧w'=Wd w (L++g') d'∧RowV (fun p=>L.length≤p) w (L++g') 1 vs.length v vs∧Steps w (L++g') (fun p=>L.length≤p) i vs ((⟨fo,n,G,U,TS⟩:Hf).laying (bys s))):=Lib.hid fun L d=>by
       have h:=laying_any w hR L d i fo n G U c5 q5 TS s (by have:=HRM2.out;omega) (by rw[HTL.out];omega) (by omega) (by omega)
       rw[HTL.out]at h
       exact h
      go_wp2_with fail
      refine(HRM.out _).mono ?_
      rintro e w' ⟨rfl,g7,d7,rfl⟩
      rw[Wd_wd]
      go_wp2_with fail
      refine(HLY.out _ _).mono ?_
      rintro e w' ⟨v,vs,g8,d8,rfl,rfl,hv,hst⟩
      have hv1:=RowV.one hv
      have HV0:Hid (RowV (fun p=>L.length≤p) w (L++g7++g8) 1 vs.length v vs∧Steps w (L++g7++g8) (fun p=>L.length≤p) i vs ((⟨fo,n,G,U,TS⟩:Hf).laying (bys s))):=Lib.hid ⟨hv.mono fun p hp _=>⟨by rw[List.length_append]at hp;omega,rfl⟩,hst.mono fun p hp _=>⟨by rw[List.length_append]at hp;omega,rfl⟩⟩
      have HLX:Hid (L.length≤(L++g7++g8).length∧∀p,p<L.length→(L++g7++g8)[p]?=L[p]?):=Lib.hid ⟨by rw[List.length_append,List.length_append];omega,fun p hp=>by rw[List.append_assoc,List.getElem?_append_left hp]⟩
      obtain⟨Lx,hLx⟩:∃Lx,L++g7++g8=Lx:=⟨_,rfl⟩
      rw[hLx]at HV0 HLX ⊢
      clear hv hst hLx hbl hblk hXk HLY HRM
      have HR7:Hid (RowV (fun p=>¬NotAt w u7 p∨Lx.length+1≤p) w (Lx++[.cells #[v] 129 (0,0)]) 1 k u7 R):=Lib.hid ((rowV_sharp HI.out.row7).mono fun p hp hlt=>⟨.inl hp.2,by rw[List.getElem?_append_left (by have:=HLX.out.1;omega),HLX.out.2 p hlt]⟩)
      have HLT:Hid (RowV (fun _=>True) w (Lx++[.cells #[v] 129 (0,0)]) 1 1 (.slice (some ⟨w.heap.size+Lx.length,0,none⟩) 1 1) [v]):=Lib.hid (.inr ⟨Lx.length,1,[_],129,trivial,rfl,by simp,rfl,Nat.le_refl _,rfl⟩)
      go_wp2_with (refine wpList_row rfl (.tmp 53) (.tmp 57) 160 129 rfl rt84 (A:=fun p=>¬NotAt w u7 p∨Lx.length+1≤p) (B:=fun _=>True) (fun p hp=>.inr (by first | omega | (rw[List.length_append,List.length_singleton]at hp;omega))) _ k R rfl HR7.out _ 1 [v] rfl HLT.out (by intro u hu;rw[List.mem_singleton.1 hu];exact hv1) (by omega) ?_)
      intro v8 Lb d5 HR8 HG8 HS8
      have HS8':Hid (Lx.length+1≤Lb.length∧∀p,p<Lx.length+1→NotAt w u7 p→Lb[p]?=(Lx++[Obj.cells #[v] 129 (0,0)])[p]?):=Lib.hid ⟨by have h1:=HG8.out;first | omega | (rw[List.length_append,List.length_singleton]at h1;omega),fun p hp hn=>HS8.out p (by first | omega | (rw[List.length_append,List.length_singleton];omega)) hn⟩
      have HBLK:Hid (∀p,p<L.length→NotAt w u7 p→Lb[p]?=L[p]?):=Lib.hid fun p hp hn=>by
       have:=HLX.out.1
       rw[HS8'.out.2 p (by omega) hn,List.getElem?_append_left (by omega),HLX.out.2 p hp]
      have hL1L:L1.length<L.length:=by have h1:=HB1.out;have h2:=HI.out.keep.1;omega
      have hb5b:Lb[L1.length]?=some (Obj.cells (hcl (.pointer (some ⟨w.heap.size+i,0,none⟩)) fo n G (.slice q5 k c5) U) 107 (0,0)):=by
       rw[HBLK.out _ hL1L (rowV_off HI.out.row7 fun h=>by have:=HB1.out;omega)];exact hb5
      have HL1L:=Lib.hid hL1L
      have HRT:Hid (RowV (fun p=>¬NotAt w (.slice q5 k c5) p∨Lb.length≤p) w Lb 1 TS.length (.slice q5 k c5) (strs TS)):=Lib.hid (by
       have h:=rowV_sharp HI.out.rowt
       rw[←HTS.out]at h
       rw[HTL.out]
       exact h.mono fun p hp hlt=>⟨.inl hp.2,HBLK.out p hlt hp.1.2⟩)
      clear hb5 HR7 HLT HG8 HS8 hL1L
      go_wp2_with fail
      refine(with_any w Lb d5 (some ⟨w.heap.size+i,0,none⟩) q5 fo n G U k c5 TS (fun p=>¬NotAt w (.slice q5 k c5) p∨Lb.length≤p) (fun p hp=>.inr hp) HRT.out s (by have:=HRM2.out;omega) (by omega) (by rw[HTL.out];omega)).mono ?_
      rintro e w' ⟨v9,Lc,d9,rfl,rfl,hr9,hl9,hs9⟩
      have hv9:=RowV.one hr9
      obtain⟨U2,hU2⟩:∃U2,U+secs s.size=U2:=⟨_,rfl⟩
      rw[hU2]
      have hb5c:Lc[L1.length]?=some (Obj.cells (hcl (.pointer (some ⟨w.heap.size+i,0,none⟩)) fo n G (.slice q5 k c5) U) 107 (0,0)):=by
       rw[hs9 _ (by have h1:=HL1L.out;have h2:=HLX.out.1;have h3:=HS8'.out.1;omega) (rowV_off HI.out.rowt fun h=>by have:=HB1.out;omega)];exact hb5b
      have HU2:=Lib.hid hU2
      have HR9:=Lib.hid hr9
      have HL9:=Lib.hid hl9
      have HS9:=Lib.hid hs9
      clear hU2 hr9 hl9 hs9 hb5b HRT
      go_wp2
      go_roundw
      case rel =>
       obtain rfl:=HU2.out
       refine⟨k+1,_,_,v9,_,_,_,_,by omega,by go_num,Lib.hid (AnI.step HI.out (by have:=HB1.out;omega) HS.out (by rw[bys_length];show ¬(⟨fo,n,G,U,TS⟩:Hf).room<_;rw[show (⟨fo,n,G,U,TS⟩:Hf).room=rm from HRM2.out];omega) (La:=Lx++[Obj.cells #[v] 129 (0,0)]) (Lb:=Lb) (Lc:=Lc) (v:=v) (v7':=v8) (vt':=v9) (vs:=vs) ⟨by rw[List.length_append];have:=HLX.out.1;omega,fun p hp=>by rw[List.getElem?_append_left (by have:=HLX.out.1;omega),HLX.out.2 p hp]⟩ (HV0.out.1.more _) (HV0.out.2.mono fun p hp hlt=>⟨hp,List.getElem?_append_left hlt⟩) ⟨by rw[List.length_append,List.length_singleton];exact HS8'.out.1,fun p hp hn=>HS8'.out.2 p (by rw[List.length_append,List.length_singleton]at hp;exact hp) hn⟩ (by rw[List.length_append,List.length_singleton];exact HR8.out) ⟨HL9.out,HS9.out⟩ (by have h:=HR9.out;rw[HTL.out,HTS.out]at h;exact h)),rfl⟩
      case measure=>simp[intOf];omega
    ·obtain rfl:k=N1:=by omega
     have hlo:=lays_ok _ _ _ _ HI.out.lays
     have hll:lss.length=k:=by rw[hlo.len,List.length_map,List.length_take,HN1.out];omega
     have hst:lss.flatten.length≤3*U:=hlo.steps
     have hall:(bs1.take k).map bys=bs1.map bys:=by rw[List.take_of_length_le (by rw[HN1.out];exact Nat.le_refl _)]
     have hfin:=HI.out.lays
     rw[hall]at hfin
     rcases HI.out.row7 with⟨_,h0,_⟩ | ⟨j7,c7,X7,T7,hA7,rfl,hj7,hXl7,hnc7,hXt7⟩
     ·have:=H1N.out;omega
     ·rw[Nat.mul_one]at hXt7 hXl7
      have hone:∀(j:Nat) v,j<k→X7[j]?=some v→v.oneCell'=true:=fun j v hj hx=>by
       have hRj:R[j]?=some v:=by rw[←hXt7,List.getElem?_take_of_lt hj];exact hx
       have hcl:=HI.out.cl
       exact RowV.one (HI.out.each j v _ _ hRj (List.getElem?_eq_getElem (by omega)) (List.getElem?_eq_getElem (by omega))).1
      have HREV:=Lib.hid fun d=>reverse_any w L d j7 k c7 X7 T7 hj7 (by omega) H1N.out hN1b hone
      have HLT7:Hid (j7<L.length∧L3.length≤j7):=Lib.hid ⟨(List.getElem?_eq_some_iff.1 hj7).1,hA7.1⟩
      have HXT7:=Lib.hid hXt7
      have HFIN:=Lib.hid hfin
      have HST:=Lib.hid (And.intro hst hll)
      clear hone hlo hll hst hall hfin hXl7 hnc7 hXt7 hA7 hj7
      go_wp2_with fail
      refine(HREV.out _).mono ?_
      rintro e w' ⟨⟨vr,rfl⟩,Y,d7,rfl,hy1,hy2⟩
      have HRR:=Lib.hid (AnI.rev (B:=L2.length) HI.out HL3.out.1 HN1.out H1N.out rfl HXT7.out HLT7.out.1 HLT7.out.2 (T:=T7) hy1 d7)
      have HK4:Hid ((L.set j7 (Obj.cells Y T7 (0,0))).length=L.length∧∀p,p≠j7→(L.set j7 (Obj.cells Y T7 (0,0)))[p]?=L[p]?):=Lib.hid ⟨List.length_set,fun p hp=>List.getElem?_set_ne fun e=>hp e.symm⟩
      obtain⟨L4,hL4⟩:∃L4,L.set j7 (Obj.cells Y T7 (0,0))=L4:=⟨_,rfl⟩
      rw[hL4]at HRR HK4 ⊢
      have HB6:Hid (blk (Wd w L4 d7) (w.heap.size+L1.length)=some (Obj.cells (hcl (.pointer (some ⟨w.heap.size+i,0,none⟩)) fo n G (.slice q5 k c5) U) 107 (0,0))):=Lib.hid (by rw[blk_at,HK4.out.2 _ (by have h1:=HLT7.out.2;have h2:=HB1.out;omega)];exact HI.out.box)
      have HKL:Hid (∀p,p<L3.length→p≠L1.length→L4[p]?=L3[p]?):=Lib.hid fun p hp hne=>by rw[HK4.out.2 p (by have:=HLT7.out.2;omega)];exact HI.out.keep.2 p hp hne
      have HLEN4:Hid (L2.length≤L4.length∧L1.length+1=L2.length∧L3.length≤L4.length):=Lib.hid ⟨by rw[HK4.out.1];have h1:=HI.out.keep.1;have h2:=HL3.out.1;omega,HL2.out.1.symm,by rw[HK4.out.1];exact HI.out.keep.1⟩
      have HSR6:Hid (srB w L2.length i [Stp.w fo [],Stp.f] y41 (Wd w L4 d7)):=Lib.hid ⟨vs6,L4,d7,rfl,HLEN4.out.1,HR6.out.mono fun p hp hlt=>⟨hp,HKL.out p hlt (by have:=HLEN4.out.2.1;omega)⟩,HS6.out.mono fun p hp hlt=>⟨hp,HKL.out p hlt (by have:=HLEN4.out.2.1;omega)⟩⟩
      have HRT4:Hid (RowV (fun p=>L3.length≤p∧p<L4.length) w L4 1 TS.length (.slice q5 k c5) (strs TS)):=Lib.hid (by
       rw[HTL.out,HTS.out]
       exact HI.out.rowt.mono fun p hp hlt=>⟨⟨hp.1,by rw[HK4.out.1];exact hlt⟩,HK4.out.2 p fun e=>hp.2 k c7 (by rw[e])⟩)
      have HLL4:Hid (∀p,p<l.length→L4[p]?=l[p]?):=Lib.hid fun p hp=>by
       have h1:=HB1.out
       rw[HKL.out p (by omega) (by omega),HK3.out p (by omega),HL0.out.2 p hp]
      obtain⟨E1,hE1⟩:∃E1,(⟨fo,n,G,U,TS⟩:Hf).ending=E1:=⟨_,rfl⟩
      obtain⟨E2,hE2⟩:∃E2,lss.reverse.flatten=E2:=⟨_,rfl⟩
      have HEN:Hid (∀L d,L2.length≤L.length→Calls Tryz.prog 60 #[.agg (hcl (.pointer (some ⟨w.heap.size+i,0,none⟩)) fo n G (.slice q5 k c5) U)] (Wd w L d) fun e W'=>∃v',e=.returned v'∧Below (Wd w L d).heap.size (Wd w L d) W'∧srB w L2.length i E1 v' W'):=Lib.hid fun L d hl=>hE1▸ending_sr w _ L d rfl L2.length i fo n G U hl _ hUn (by omega) (by omega) TS
      have HE2L:Hid (E2.length≤3*U):=Lib.hid (by
       have e:lss.reverse.flatten.length=lss.flatten.length:=by simp[List.length_flatten,List.sum_reverse]
       rw[←hE2,e];exact HST.out.1)
      have HRL:Hid (lss.reverse.length≤500000):=Lib.hid (by rw[List.length_reverse,HST.out.2];omega)
      have HEL:Hid (([[Stp.w fo [],Stp.f],E1,E2]:List (List Stp)).flatten.length≤500000):=Lib.hid (by
       have h1:=ending_length (⟨fo,n,G,U,TS⟩:Hf)
       have h2:=HE2L.out
       rw[hE1]at h1
       simp only[List.flatten_cons,List.flatten_nil,List.length_append,List.append_nil,List.length_cons,List.length_nil]
       omega)
      have HNE:Hid (¬([[Stp.w fo [],Stp.f],E1,E2]:List (List Stp)).flatten.length=0):=Lib.hid (by simp)
      have HAP:Hid ((⟨⟨fi,n,g,u,ts⟩,false⟩:Jn).anew M (bs.map bys)=(⟨⟨fi,n,g,u,ts⟩,false⟩:Jn).turn M ⟨fo,n,G,U,TS⟩ ([[Stp.w fo [],Stp.f],E1,E2]:List (List Stp)).flatten):=Lib.hid ((HAN.out _).2 (by
       rw[HFIN.out]
       simp only
       rw[hE1,hE2]
       simp))
      have HOK:Hid ((⟨⟨fo,n,G,U,TS⟩,false⟩:Jn).Ok∧(⟨⟨0,n,0,0,[]⟩,true⟩:Jn).Ok):=Lib.hid ⟨⟨hfob,hn,hUn,by show TS.length≤U;rw[HTL.out];exact hkU,by show G≤_;have:=HG.out;omega⟩,⟨Nat.zero_le _,hn,Nat.zero_le _,Nat.le_refl _,Nat.zero_le _⟩⟩
      have HE2:=Lib.hid hE2
      clear hE1 hy1 hy2 hL4
      go_wp2_with fail
      refine wp_region_fine_drop 9 (TL [eqv (.pointer (some ⟨w.heap.size+jo,0,none⟩)),eqv (.agg (hcl (.pointer (some ⟨w.heap.size+i,0,none⟩)) fo n G (.slice q5 k c5) U)),srB w L2.length i [Stp.w fo [],Stp.f],eqv (.agg (hcl (.pointer (some ⟨w.heap.size+i,0,none⟩)) fo n G (.slice q5 k c5) U)),srB w L2.length i E1,rrB w L2.length i lss.reverse,srB w L2.length i E2,rrB w L2.length i ([[Stp.w fo [],Stp.f],E1,E2]:List (List Stp)),srB w L2.length i ([[Stp.w fo [],Stp.f],E1,E2]:List (List Stp)).flatten]) (by kernel_rfl) (by kernel_rfl) (by kernel_rfl) (by kernel_rfl) (TL_last (List.forall_mem_cons.2 ⟨eqv_last _,List.forall_mem_cons.2 ⟨eqv_last _,List.forall_mem_cons.2 ⟨srB_last _ _ _ _,List.forall_mem_cons.2 ⟨eqv_last _,List.forall_mem_cons.2 ⟨srB_last _ _ _ _,List.forall_mem_cons.2 ⟨rrB_last _ _ _ _,List.forall_mem_cons.2 ⟨srB_last _ _ _ _,List.forall_mem_cons.2 ⟨rrB_last _ _ _ _,List.forall_mem_cons.2 ⟨srB_last _ _ _ _,fun _ h=>(List.not_mem_nil h).elim⟩⟩⟩⟩⟩⟩⟩⟩⟩)) (TL_no_guard (by kernel_rfl)) ?_ ?_
      ·intro ix o ho a W hB hdep hfix
       simp only[List.take_succ_cons,List.take_zero]at ho hdep hfix
       match ix,ho with
       |0,ho =>
        obtain rfl:=Option.some.inj ho
        exact lays_eq _ rfl (exec_move (hfix 0 (by decide +kernel)))
       |1,ho =>
        obtain rfl:=Option.some.inj ho
        exact lays_eq _ rfl (exec_load (hfix 5 (by decide +kernel)) (ldHA agj61 (blk_below hB HB6.out)))
       |2,ho =>
        obtain rfl:=Option.some.inj ho
        exact lays_value (exec_move (hfix 6 (by decide +kernel))) (Below.refl _ _) (srB_last _ _ _ _ _ _ _ HSR6.out hB)
       |3,ho =>
        obtain rfl:=Option.some.inj ho
        exact lays_eq _ rfl (exec_load (hfix 5 (by decide +kernel)) (ldHA agj61 (blk_below hB HB6.out)))
       |4,ho =>
        obtain rfl:=Option.some.inj ho
        have e1:a.tmps.getD 68 undef=.agg (hcl (.pointer (some ⟨w.heap.size+i,0,none⟩)) fo n G (.slice q5 k c5) U):=hdep 3 _ 68 rfl rfl (by decide +kernel)
        obtain⟨gT,dT,rfl⟩:=below_grows hB
        refine lays_call #[.agg (hcl (.pointer (some ⟨w.heap.size+i,0,none⟩)) fo n G (.slice q5 k c5) U)] (by simp[Act.eval,e1]) (by kernel_rfl) ((HEN.out (L4++gT) dT (by rw[List.length_append];have:=HLEN4.out.1;omega)).mono ?_)
        rintro e W' ⟨z,he,hb,hs⟩
        exact⟨z,he,hb,hs⟩
       |5,ho =>
        obtain rfl:=Option.some.inj ho
        exact lays_value (exec_move (hfix 7 (by decide +kernel))) (Below.refl _ _) (rrB_last _ _ _ _ _ _ _ HRR.out hB)
       |6,ho =>
        obtain rfl:=Option.some.inj ho
        have e1:rrB w L2.length i lss.reverse (a.tmps.getD 70 undef) W:=hdep 5 _ 70 rfl rfl (by decide +kernel)
        refine lays_call #[a.tmps.getD 70 undef] (by simp[Act.eval]) (by kernel_rfl) ((concat_rr w W L2.length i lss.reverse _ e1 (by rw[HE2.out];have:=HE2L.out;omega) HRL.out).mono ?_)
        rintro e W' ⟨z,he,hb,hs⟩
        exact⟨z,he,hb,HE2.out▸hs⟩
       |7,ho =>
        obtain rfl:=Option.some.inj ho
        have e1:srB w L2.length i [Stp.w fo [],Stp.f] (a.tmps.getD 67 undef) W:=hdep 2 _ 67 rfl rfl (by decide +kernel)
        have e2:srB w L2.length i E1 (a.tmps.getD 69 undef) W:=hdep 4 _ 69 rfl rfl (by decide +kernel)
        have e3:srB w L2.length i E2 (a.tmps.getD 71 undef) W:=hdep 6 _ 71 rfl rfl (by decide +kernel)
        exact lays_rr3 e1 e2 e3 (fun _ _ h=>h)
       |8,ho =>
        obtain rfl:=Option.some.inj ho
        have e1:rrB w L2.length i ([[Stp.w fo [],Stp.f],E1,E2]:List (List Stp)) (a.tmps.getD 72 undef) W:=hdep 7 _ 72 rfl rfl (by decide +kernel)
        refine lays_call #[a.tmps.getD 72 undef] (by simp[Act.eval]) (by kernel_rfl) ((concat_rr w W L2.length i ([[Stp.w fo [],Stp.f],E1,E2]:List (List Stp)) _ e1 HEL.out (by show 3≤500000;omega)).mono ?_)
        rintro e W' ⟨z,he,hb,hs⟩
        exact⟨z,he,hb,hs⟩
       |ix+9,ho=>simp at ho
      ·intro a W hB hd hsz hfix hT
       simp only[List.take_succ_cons,List.take_zero,List.drop_succ_cons,List.drop_zero]at hfix hT ⊢
       have f65:a.tmps.getD 65 undef=.pointer (some ⟨w.heap.size+jo,0,none⟩):=hT 0 _ 65 rfl rfl
       have f66:a.tmps.getD 66 undef=.agg (hcl (.pointer (some ⟨w.heap.size+i,0,none⟩)) fo n G (.slice q5 k c5) U):=hT 1 _ 66 rfl rfl
       have g73:srB w L2.length i ([[Stp.w fo [],Stp.f],E1,E2]:List (List Stp)).flatten (a.tmps.getD 73 undef) W:=hT 8 _ 73 rfl rfl
       rw[frame_lit a 75 hsz hd]
       clear hfix hT hsz hd
       simp only[List.range,List.range.loop,List.map]
       generalize a.tmps=t at *
       simp only[f65,f66]
       clear f65 f66
       obtain⟨gT,dT,rfl⟩:=below_grows hB
       obtain⟨vs,L5,d6,e6,hb,hr3,hs3⟩:=g73
       obtain rfl:=Wd_inj e6
       rcases hr3 with⟨_,h0,_⟩ | ⟨r,cap,Xr,Tr,hBr,hvr,hXr,hXl,hmX,hXv⟩
       ·exact absurd h0 HNE.out
       simp only[hvr]
       obtain⟨ss,hss⟩:∃ss,([[Stp.w fo [],Stp.f],E1,E2]:List (List Stp)).flatten=ss:=⟨_,rfl⟩
       have hap:=HAP.out
       have hel:=HEL.out
       rw[hss]at hs3 hmX hXv hap hel hvr ⊢
       obtain⟨m,hm⟩:∃m,ss.length=m:=⟨_,rfl⟩
       rw[hm]at hmX hXv hel hvr ⊢
       have HAP2:=Lib.hid hap
       have HLE0:Hid (L4.length≤(L4++gT).length∧∀p,p<L4.length→(L4++gT)[p]?=L4[p]?):=Lib.hid ⟨by rw[List.length_append];omega,fun p hp=>List.getElem?_append_left hp⟩
       obtain⟨LL,hLL0⟩:∃LL,L4++gT=LL:=⟨_,rfl⟩
       rw[hLL0]at hXr hs3 HLE0 ⊢
       have hlL:l.length≤LL.length:=by have h1:=HLE0.out.1;have h2:=HLEN4.out;have h3:=HB1.out;omega
       have hLL:∀p,p<l.length→LL[p]?=l[p]?:=fun p hp=>by rw[HLE0.out.2 p (by have h2:=HLEN4.out;have h3:=HB1.out;omega)];exact HLL4.out p hp
       have hl2:l.length≤L2.length:=by have h2:=HLEN4.out;have h3:=HB1.out;omega
       have HT:=Lib.hid (turn_any w LL dT i sd q vw (fun p=>O p∨(l.length≤p∧p<LL.length)) M (HD.out.keep fun p hp hlt=>⟨fun h'=>h'.elim hp (fun h2=>by omega),hLL p hlt⟩) (fun p hp=>hp.elim (fun h'=>Nat.lt_of_lt_of_le (HO.out p h') hlL) (fun h'=>h'.2)) jo r m cap _ _ _ _ _ _ _ fo n G U k c5 q5 Xr Tr vs ss (by rw[hLL jo (HO.out _ HJO.out)];exact HJ.out) (.inl HJO.out) hXr (.inr ⟨by omega,(List.getElem?_eq_some_iff.1 hXr).1⟩) (by omega) (by rw[←hXv,Nat.mul_one]) hm (hs3.mono fun p hp hlt=>⟨.inr ⟨by omega,hlt⟩,rfl⟩) (by omega) (by omega))
       have HLL:=Lib.hid hLL
       have HLE:Hid (l.length≤LL.length∧l.length≤L3.length):=Lib.hid ⟨hlL,by have h2:=HLEN4.out;have h3:=HB1.out;omega⟩
       clear hLL hl2 hlL hLL0 hs3 hXr hXl hmX hXv hvr hap hel hm hss e6 hb hBr hB
       go_wp2_with fail
       refine HT.out.mono ?_
       rintro e w' ⟨l',d',vw',he,rfl,hD3,hl3,hs4,hj4⟩
       obtain⟨Z,hZ⟩:∃Z:Int,(if (runS M ss).2=true then (0:Int)else 7)=Z:=⟨_,rfl⟩
       rw[hZ]at he
       subst he
       have HZ:=Lib.hid hZ
       clear hZ
       have HD3:=Lib.hid hD3
       have HL5:=Lib.hid hl3
       have HS4:=Lib.hid hs4
       have HJ4:=Lib.hid hj4
       clear hD3 hl3 hs4 hj4 HT
       go_wp2
       go_ret
       have hz:=HZ.out
       have hj5:=HJ4.out
       have hjne:∀p,(A p∨l.length≤p)→p≠jo:=fun p hp e=>by
        subst e
        exact hp.elim HH.out.jA (fun h'=>by have:=HO.out _ HJO.out;omega)
       have hkeep:∀p,O p→p≠jo→¬A p→l'[p]?=l[p]?:=fun p hp hne hA=>(HS4.out p (.inl hp) hne).trans (HLL.out p (HO.out p hp))
       have hlt:∀p,(O p∨(l.length≤p∧p<LL.length))→p<l'.length:=fun p hp=>by
        have:=HL5.out
        rcases hp with h' | h'
        ·have:=HO.out p h';have:=HLE.out.1;omega
        ·omega
       have hlen:l.length≤l'.length:=by have:=HL5.out;have:=HLE.out.1;omega
       unfold AppQ
       rw[HAP2.out]
       unfold Jn.turn
       cases hb:(runS M ss).2 with
       |true =>
        rw[hb,if_pos rfl]at hz hj5
        rw[if_pos rfl]
        refine⟨l',d',vw',.slice q5 k c5,fun p=>O p∨(l.length≤p∧p<LL.length),by rw[←hz];rfl,rfl,HD3.out,⟨hj5,?_,fun h'=>hjne jo (h'.imp id fun h2=>h2.1) rfl,HOK.out.1⟩,hlen,hkeep,fun p hp=>.inl hp,hlt⟩
        exact HRT4.out.mono fun p hp hlt2=>⟨.inr ⟨by have:=HLE.out.2;omega,.inr ⟨by have:=HLE.out.2;omega,by have:=HLE0.out.1;omega⟩⟩,(HS4.out p (.inr ⟨by have:=HLE.out.2;omega,by have:=HLE0.out.1;omega⟩) (hjne p (.inr (by have:=HLE.out.2;omega)))).trans (HLE0.out.2 p hlt2)⟩
       |false =>
        rw[hb,if_neg (by simp)]at hz hj5
        rw[if_neg (by simp)]
        exact⟨l',d',vw',.slice none 0 0,fun p=>O p∨(l.length≤p∧p<LL.length),by rw[←hz];rfl,rfl,HD3.out,⟨hj5,.inl ⟨rfl,rfl,rfl⟩,fun h'=>hjne jo (h'.imp id fun h2=>h2.1) rfl,HOK.out.2⟩,hlen,hkeep,fun p hp=>.inl hp,hlt⟩
 by_cases h0:N=0
 ·subst h0
  have hb0:bs=[]:=List.length_eq_zero_iff.1 HN.out
  go_wp2
  exact hpost _ _ _ _ _ _ _ _ _ _ _ _ _ _ (w.heap.size+l.length) 0 1 1 #[.string .empty] 9 (0,0) [.empty] (l++[.cells #[.string .empty] 9 (0,0)]) d rfl (Nat.le_refl _) (by omega) ⟨by rw[List.length_append];omega,fun p hp=>List.getElem?_append_left hp⟩ (fun L d hL=>by rw[blk_at,hL _ (by rw[List.length_append,List.length_singleton];omega)];simp) (fun k s hs=>by
   match k,hs with
   |0,hs=>simp at hs;subst hs;rfl
   |k+1,hs=>simp at hs) (by rw[hb0];rfl)
 ·have hb0:bs≠[]:=fun e=>h0 (by rw[←HN.out,e];rfl)
  obtain⟨b,o,X,T,f,rfl,h1,h2⟩:=HVX.out hb0
  have H1:=Lib.hid h1
  have H2:=Lib.hid h2
  have HN0:=Lib.hid hb0
  have hN0:¬(N:Int)=0:=by omega
  clear h1 h2 hb0
  go_wp2
  exact hpost _ _ _ _ _ _ _ _ _ _ _ _ _ _ b o vc N X T f bs l d HN.out (by omega) hbs ⟨Nat.le_refl _,fun _ _=>rfl⟩ H1.out H2.out (by unfold someL;rw[if_neg (by simpa using HN0.out)])
attribute [-go_sem] bsj84
attribute [local go_sem] agj64 csj64 szj64 ldJ6 ldJ3 sz4 isa4 ag4
set_option maxRecDepth 100000 in
theorem anew_any(w:World)(hR:Sm.Roots w)(l:List Obj)(d jo i sd q:Nat)(vw:Value)(O A:Nat→Prop)(J:Jn)(vt:Value)(M:Dk)(h:JAt w l jo i A J vt)(hD:DAt w l i sd q vw O M)(hO:∀p,O p→p<l.length)(hjO:O jo)(hAO:∀p,A p→O p)(hfs:J.now.first≤J.now.size)(v:Value)(bs:List ByteArray)(hv:TxAt w l v bs)(hbs:bs.length≤100000)(hc:M.count<1000000000000) :
  Calls Tryz.prog 63 #[.pointer (some ⟨w.heap.size+jo,0,none⟩),v] (Wd w l d) fun e w'=>AppQ w l jo i sd q O A (J.anew M (bs.map bys)) e w':=by
 by_cases hoff:J.off=true
 ·have ha:J.anew M (bs.map bys)=(J,M,7):=by unfold Jn.anew;rw[if_pos hoff]
  rw[ha]
  have hj:=h.cells
  rw[hoff]at hj
  have HQ:Hid (∀d,AppQ w l jo i sd q O A (J,M,7) (.returned (.int .i64 7)) (Wd w l d)):=Lib.hid fun d=>by
   have:=appQ_same (g:=[]) (d:=d) (c:=7) h hD hO
   rw[List.append_nil]at this
   exact this
  clear h hD hO hjO hAO ha hoff hfs
  go_enter Tryz.func63,Tryz.ntmps63
  go_wp2
  go_ret
  exact HQ.out _
 ·have hoff':J.off=false:=by simpa using hoff
  by_cases hg:J.now.gen=1099511627776
  ·have ha:J.anew M (bs.map bys)=(J,M,1):=by unfold Jn.anew;rw[if_neg hoff,if_pos hg]
   rw[ha]
   have hj:=h.cells
   rw[hoff',hg]at hj
   have HQ:Hid (∀d,AppQ w l jo i sd q O A (J,M,1) (.returned (.int .i64 1)) (Wd w l d)):=Lib.hid fun d=>by
    have:=appQ_same (g:=[]) (d:=d) (c:=1) h hD hO
    rw[List.append_nil]at this
    exact this
   clear h hD hO hjO hAO ha hoff hoff' hg hfs
   go_enter Tryz.func63,Tryz.ntmps63
   go_wp2
   go_ret
   exact HQ.out _
  ·exact anew_on w hR l d jo i sd q vw O A J vt M h hD hO hjO hAO hfs v bs hv hbs hoff' hg hc
end Go.Proofs.YtlogjpmdfimgdaaGreatDoor.Jf
namespace Go.Own.Jf
open Go Go.RowKit Go.Own.Fr
def Prs(U:Nat→Nat→Value→Value→Prop)(hd:List Oper)(done:Array Bool)(a:Act):Prop :=
 ∀i j oi oj si sj,i≠j→hd[i]?=some oi→hd[j]?=some oj→done.getD i false=true→done.getD j false=true→oi.dst=some si→oj.dst=some sj→U i j (a.tmps.getD si undef) (a.tmps.getD sj undef)
theorem any_fine_pairs{P:Program}{Q:Exit→Act→World→Prop}{a0:Act}{w0:World}(hd tl:List Oper){L:List Oper}(hL:L=hd++tl)(T D:Nat→Value→World→Prop)(U:Nat→Nat→Value→Value→Prop)(hU:∀i j v x W,D i v W→T j x W→U i j v x∧U j i x v)(hp:plainG hd a0.tmps.size=true)
  (hb0:((hd++tl).zipIdx.all fun (o,i)=>o.after.all fun e=>!Region.binds .any e||decide (e.on<i))=true) (ht:tailB hd tl=true)
  (hlast:∀i v W W',T i v W→Below W.heap.size W W'→T i v W')
  (hguard:∀(i:Nat) (o:Oper) j b,hd[i]?=some o→o.guard=some (j,b)→∀v W,T j v W→v=.bool b)
  (hstep:∀i o,hd[i]?=some o→∀(a:Act) (W:World),Below w0.heap.size w0 W→(∀j oj s,hd[j]?=some oj→oj.dst=some s→waits o j=true→T j (a.tmps.getD s undef) W)→(∀s,keepsB hd i s=true→a.tmps.getD s undef=a0.tmps.getD s undef)→Lays P (fun k v W'=>T k v W'∧D k v W) i o a W)
  (hend:∀(a:Act) (W:World),Below w0.heap.size w0 W→a.defers=a0.defers→a.tmps.size=a0.tmps.size→(∀s,(hd.all fun o=>decide (o.dst≠some s))=true→a.tmps.getD s undef=a0.tmps.getD s undef)→(∀i o s,hd[i]?=some o→o.dst=some s→T i (a.tmps.getD s undef) W)→(∀i j oi oj si sj,i≠j→hd[i]?=some oi→hd[j]?=some oj→oi.dst=some si→oj.dst=some sj→U i j (a.tmps.getD si undef) (a.tmps.getD sj undef))→wpList P (hd++tl).toArray Q tl a W) :
  wpAny P .any L.toArray Q L.toArray.size (Array.replicate L.toArray.size false) a0 { w0 with drawn:=w0.drawn+1 }:=by
 subst hL
 simp only[plainG,Bool.and_eq_true,decide_eq_true_eq]at hp
 obtain⟨⟨hb,hg⟩,hn⟩:=hp
 have hg2:∀(i:Nat) (o:Oper),hd[i]?=some o→(∃s,o.dst=some s∧s<a0.tmps.size)∧∀j b,o.guard=some (j,b)→waits o j=true:=fun i o ho=>by
  have h1:=List.all_eq_true.1 hg o (List.mem_of_getElem? ho)
  simp only[Bool.and_eq_true,Option.any_eq_true,decide_eq_true_eq]at h1
  refine⟨h1.1,fun j b hjb=>?_⟩
  have h2:=h1.2
  rw[hjb]at h2
  exact h2
 have hnd:∀(i j:Nat) (oi oj:Oper),hd[i]?=some oi→hd[j]?=some oj→oi.dst=oj.dst→i=j:=fun i j oi oj h1 h2 e=>by
  have hi:=(List.getElem?_eq_some_iff.1 h1).1
  have hj:=(List.getElem?_eq_some_iff.1 h2).1
  refine(List.getElem_inj (xs:=hd.map fun o=>o.dst) (h₀:=by simpa using hi) (h₁:=by simpa using hj) hn).1 ?_
  simp only[List.getElem_map]
  rw[(List.getElem?_eq_some_iff.1 h1).2,(List.getElem?_eq_some_iff.1 h2).2,e]
 have hhd:∀ {i:Nat},i<hd.length→(hd++tl)[i]?=hd[i]?:=fun h=>List.getElem?_append_left h
 have htl:∀ {k:Nat} {o:Oper},(hd++tl)[hd.length+k]?=some o→∀j,j<hd.length+k→waitsN (hd++tl) 5 o j=true:=fun {k o} ho j hj=>by
  rw[List.getElem?_append_right (by omega),Nat.add_sub_cancel_left]at ho
  have h1:=List.all_eq_true.1 ht (o,k) (by rw[List.mem_zipIdx_iff_getElem?];simpa using ho)
  exact List.all_eq_true.1 h1 j (List.mem_range.2 hj)
 refine wpAny_of_inv2 (fun done a W=>done.size=(hd++tl).length∧(∀i o,(hd++tl)[i]?=some o→done.getD i false=true→∀e∈o.after,Region.binds .any e=true→done.getD e.on false=true) ∧
   (((∀i,hd.length≤i→done.getD i false=false)∧FInv hd T a0 w0 done a W∧Prs U hd done a) ∨
    ∃m,(∀i,i<hd.length+m→done.getD i false=true)∧(∀i,hd.length+m≤i→done.getD i false=false)∧wpList P (hd++tl).toArray Q (tl.drop m) a W)) (by simpa using hb0) ?_ ?_ _ _ _ _ (by simp) ?_ ?_
 ·rintro done a W i ⟨hds,hcl,hI⟩ hnd1 hdep hlt
  have hil:i<(hd++tl).length:=by simpa using hlt
  have ho:(hd++tl)[i]?=some (hd++tl)[i]:=List.getElem?_eq_getElem hil
  generalize hoi:(hd++tl)[i]=o at ho
  have hnf:done.getD i false=false:=by
   cases h:done.getD i false with
   |false=>rfl
   |true=>rw[getD_both hnd1]at h;cases h
  have hdo:=hdep o (by simpa using ho)
  have hcl':∀j oj,(hd++tl)[j]?=some oj→(done.setIfInBounds i true).getD j false=true→∀e∈oj.after,Region.binds .any e=true→(done.setIfInBounds i true).getD e.on false=true:=fun j oj hj hdj e he hbi=>by
   rcases done_set hdj with h1 | h1
   ·subst h1
    have:oj=o:=Option.some.inj (hj.symm.trans ho)
    subst this
    have h2:=hdo e he hbi
    by_cases e2:i=e.on
    ·rw[←e2]at h2;rw[hnf]at h2;cases h2
    ·rw[getD_set_ne false e2];exact h2
   ·have h2:=hcl j oj hj h1 e he hbi
    by_cases e2:i=e.on
    ·rw[←e2]at h2;rw[hnf]at h2;cases h2
    ·rw[getD_set_ne false e2];exact h2
  have hw2:∀k,i=hd.length+k→∀j,j<i→done.getD j false=true:=fun k hk j hj=>by
   exact waitsN_done hcl 5 o j hdo (htl (k:=k) (o:=o) (by rw[←hk];exact ho) j (by omega))
  have hseq:∀m,i=hd.length+m→(∀j,j<i→done.getD j false=true)→(∀j,i≤j→done.getD j false=false)→wpList P (hd++tl).toArray Q (tl.drop m) a W →
    wpOp P (hd++tl).toArray Q i (fun a' W'=>(done.setIfInBounds i true).size=(hd++tl).length∧(∀i_1 o,(hd++tl)[i_1]?=some o→(done.setIfInBounds i true).getD i_1 false=true→∀e∈o.after,Region.binds .any e=true→(done.setIfInBounds i true).getD e.on false=true) ∧
     (((∀j,hd.length≤j→(done.setIfInBounds i true).getD j false=false)∧FInv hd T a0 w0 (done.setIfInBounds i true) a' W'∧Prs U hd (done.setIfInBounds i true) a') ∨
      ∃m,(∀j,j<hd.length+m→(done.setIfInBounds i true).getD j false=true)∧(∀j,hd.length+m≤j→(done.setIfInBounds i true).getD j false=false)∧wpList P (hd++tl).toArray Q (tl.drop m) a' W')) a W:=fun m hm1 hlow hhigh hl=>by
   have hom:tl[m]?=some o:=by
    have:=ho
    rw[hm1,List.getElem?_append_right (by omega),Nat.add_sub_cancel_left]at this
    exact this
   have hml:=(List.getElem?_eq_some_iff.1 hom).1
   rw[List.drop_eq_getElem_cons hml,(List.getElem?_eq_some_iff.1 hom).2]at hl
   have hK:∀a' W',wpList P (hd++tl).toArray Q (tl.drop (m+1)) a' W'→((done.setIfInBounds i true).size=(hd++tl).length∧(∀i_1 o,(hd++tl)[i_1]?=some o→(done.setIfInBounds i true).getD i_1 false=true→∀e∈o.after,Region.binds .any e=true→(done.setIfInBounds i true).getD e.on false=true) ∧
     (((∀j,hd.length≤j→(done.setIfInBounds i true).getD j false=false)∧FInv hd T a0 w0 (done.setIfInBounds i true) a' W'∧Prs U hd (done.setIfInBounds i true) a') ∨
      ∃m,(∀j,j<hd.length+m→(done.setIfInBounds i true).getD j false=true)∧(∀j,hd.length+m≤j→(done.setIfInBounds i true).getD j false=false)∧wpList P (hd++tl).toArray Q (tl.drop m) a' W')):=fun a' W' h=>by
    refine⟨by simp[hds],hcl',.inr ⟨m+1,fun j hj=>?_,fun j hj=>?_,h⟩⟩
    ·by_cases e:i=j
     ·subst e;simp[hds▸hil]
     ·rw[getD_set_ne false e];exact hlow j (by omega)
    ·rw[getD_set_ne false (by omega)];exact hhigh j (by omega)
   unfold wpOp
   have ho':(hd++tl).toArray[i]?=some o:=by simpa using ho
   rw[ho']
   simp only[wpList]at hl
   split at hl
   ·rename_i hw
    simp only[hw,if_true]
    exact hl.imp (Oper.wp_mono hK) fun h=>h
   ·rename_i hw
    simp only[hw]
    exact hK _ _ hl
  rcases hI with⟨hT0,hI,hPr⟩ | ⟨m,hlow,hhigh,hl⟩
  ·by_cases hih:i<hd.length
   ·rw[hhd hih]at ho
    obtain⟨⟨s,hs,hsz⟩,hgw⟩:=hg2 i o ho
    have hvals:∀j oj s,hd[j]?=some oj→oj.dst=some s→waits o j=true→T j (a.tmps.getD s undef) W:=fun j oj sj hj hsj hw=>by
     obtain⟨e,he,hbi,hon⟩:=waits_spec hw
     exact hI.vals j oj sj hj (hon▸hdo e he hbi) hsj
    refine wpOp_want o (by simpa [hhd hih]using ho) ?_ (Oper.wp_mono ?_ (hstep i o ho a W hI.below hvals (fun s' hk=>hI.fixed s' fun j oj hj hdj hds2=>by
     have h1:=List.all_eq_true.1 hk (oj,j) (by rw[List.mem_zipIdx_iff_getElem?];simpa using hj)
     simp only[Bool.or_eq_true,decide_eq_true_eq]at h1
     rcases h1 with(h1 | h1) | h1
     ·exact h1 hds2
     ·subst h1;rw[hnf]at hdj;cases hdj
     ·obtain⟨e,he,hbi,hon⟩:=waits_spec h1
      have h2:=hI.closed j oj hj hdj e he hbi
      rw[hon,hnf]at h2;cases h2) _))
    ·cases hgd:o.guard with
     |none=>simp[Region.wanted,hgd]
     |some p =>
      obtain⟨j,b⟩:=p
      have hw:=hgw j b hgd
      obtain⟨e,he,hbi,hon⟩:=waits_spec hw
      have hdj:done.getD j false=true:=hon▸hdo e he hbi
      have hjl:j<hd.length:=by
       rcases Nat.lt_or_ge j hd.length with h | h
       ·exact h
       ·rw[hT0 j h]at hdj;cases hdj
      have hoj:hd[j]?=some hd[j]:=List.getElem?_eq_getElem hjl
      obtain⟨⟨sj,hsj,hsjz⟩,_⟩:=hg2 j _ hoj
      have hT:=hvals j _ sj hoj hsj hw
      have hv:=hguard i o j b ho hgd _ _ hT
      have ht2:a.tmps[sj]?=some (.bool b):=by
       have h3:sj<a.tmps.size:=by rw[hI.size];exact hsjz
       rw[←hv]
       simp[Array.getD,h3]
      have hoj2:(hd++tl)[j]?=some hd[j]:=by rw[hhd hjl];exact hoj
      simp[Region.wanted,hgd,yielded,hoj2,hsj,ht2]
    ·rintro a' W' ⟨v,rfl,hB,hTi,hDi⟩
     have hput:=fun k=>put_at (a:=a) (s:=s) (v:=v) (by rw[hI.size];exact hsz) k
     rw[hs]
     refine⟨by simp[hds],hcl',.inl ⟨fun j hj=>by rw[getD_set_ne false (by omega)];exact hT0 j hj,?_,?_⟩⟩
     rotate_left
     ·intro i1 j1 oi oj si sj hne h1 h2 d1 d2 e1 e2
      rw[hput si,hput sj]
      have hdi:∀k ok sk,hd[k]?=some ok→ok.dst=some sk→k≠i→sk≠s:=fun k ok sk hk hsk hki e=>hki (hnd k i ok o hk ho (by rw[hsk,hs,e]))
      have hdo2:∀k,k≠i→(done.setIfInBounds i true).getD k false=true→done.getD k false=true:=fun k hk h3=>by
       rw[getD_set_ne false fun e=>hk e.symm]at h3;exact h3
      by_cases ei:i1=i
      ·subst ei
       have:oi=o:=Option.some.inj (h1.symm.trans ho)
       subst this
       have hj1:j1≠i1:=fun e=>hne e.symm
       rw[if_pos (Option.some.inj (e1.symm.trans hs)),if_neg (hdi j1 oj sj h2 e2 hj1)]
       exact(hU _ _ _ _ W hDi (hI.vals j1 oj sj h2 (hdo2 j1 hj1 d2) e2)).1
      ·rw[if_neg (hdi i1 oi si h1 e1 ei)]
       by_cases ej:j1=i
       ·subst ej
        have:oj=o:=Option.some.inj (h2.symm.trans ho)
        subst this
        rw[if_pos (Option.some.inj (e2.symm.trans hs))]
        exact(hU _ _ _ _ W hDi (hI.vals i1 oi si h1 (hdo2 i1 ei d1) e1)).2
       ·rw[if_neg (hdi j1 oj sj h2 e2 ej)]
        exact hPr i1 j1 oi oj si sj hne h1 h2 (hdo2 i1 ei d1) (hdo2 j1 ej d2) e1 e2
     refine⟨hI.below.trans (hB.mono hI.below.size),hI.defers,?_,fun k hk=>?_,fun j oj sj hj hdj hsj=>?_,fun j oj hj hdj e he hbi=>?_⟩
     ·simp[Act.put,hI.size]
     ·rw[hput k]
      have hne:k≠s:=fun e=>hk i o ho (by
       have hds:i<done.size:=by omega
       simp[hds]) (by rw[e];exact hs)
      rw[if_neg hne]
      exact hI.fixed k fun j oj hj hdj=>hk j oj hj (by
       by_cases e:i=j
       ·subst e;rw[hnf]at hdj;cases hdj
       ·rw[getD_set_ne false e];exact hdj)
     ·rw[hput sj]
      rcases done_set hdj with h1 | h1
      ·subst h1
       have:oj=o:=Option.some.inj (hj.symm.trans ho)
       subst this
       rw[if_pos (Option.some.inj (hsj.symm.trans hs))]
       exact hTi
      ·have hne:sj≠s:=fun e=>by
        have:=hnd j i oj o hj ho (by rw[hsj,hs,e])
        subst this
        rw[hnf]at h1;cases h1
       rw[if_neg hne]
       exact hlast _ _ _ _ (hI.vals j oj sj hj h1 hsj) hB
     ·exact hcl' j oj (by rw[hhd (List.getElem?_eq_some_iff.1 hj).1];exact hj) hdj e he hbi
   ·obtain⟨k,hk⟩:∃k,i=hd.length+k:=⟨i-hd.length,by omega⟩
    have hlow:=hw2 k hk
    have hk0:k=0:=by
     rcases Nat.eq_zero_or_pos k with h | h
     ·exact h
     ·have h1:=hlow hd.length (by omega)
      rw[hT0 _ (Nat.le_refl _)]at h1;cases h1
    subst hk0
    refine hseq 0 hk hlow (fun j hj=>hT0 j (by omega)) ?_
    rw[List.drop_zero]
    exact hend a W hI.below hI.defers hI.size (fun s hs=>hI.fixed s fun j o ho _=>by
     have:=List.all_eq_true.1 hs o (List.mem_of_getElem? ho)
     simpa using this) (fun j o s ho hs=>hI.vals j o s ho (hlow j (by have:=(List.getElem?_eq_some_iff.1 ho).1;omega)) hs) (fun i1 j1 oi oj si sj hne h1 h2 e1 e2=>hPr i1 j1 oi oj si sj hne h1 h2 (hlow i1 (by have:=(List.getElem?_eq_some_iff.1 h1).1;omega)) (hlow j1 (by have:=(List.getElem?_eq_some_iff.1 h2).1;omega)) e1 e2)
  ·have him:i=hd.length+m:=by
    rcases Nat.lt_trichotomy i (hd.length+m)with h | h | h
    ·rw[hlow i h]at hnf;cases hnf
    ·exact h
    ·obtain⟨k,hk⟩:∃k,i=hd.length+k:=⟨i-hd.length,by omega⟩
     have h1:=hw2 k hk (hd.length+m) h
     rw[hhigh _ (Nat.le_refl _)]at h1;cases h1
   exact hseq m him (fun j hj=>hlow j (by omega)) (fun j hj=>hhigh j (by omega)) hl
 ·rintro done a W ⟨hds,hcl,hI⟩ hall
  have hall':∀i,i<(hd++tl).length→done.getD i false=true:=fun i hi=>hall i (by simpa using hi)
  rcases hI with⟨hT0,hI,hPr⟩ | ⟨m,hlow,hhigh,hl⟩
  ·have h0:tl=[]:=by
    cases tl with
    |nil=>rfl
    |cons o r =>
     have h1:=hall' hd.length (by simp)
     rw[hT0 _ (Nat.le_refl _)]at h1;cases h1
   subst h0
   exact hend a W hI.below hI.defers hI.size (fun s hs=>hI.fixed s fun j o ho _=>by
     have:=List.all_eq_true.1 hs o (List.mem_of_getElem? ho)
     simpa using this) (fun j o s ho hs=>hI.vals j o s ho (hall' j (by have:=(List.getElem?_eq_some_iff.1 ho).1;simp;omega)) hs) (fun i1 j1 oi oj si sj hne h1 h2 e1 e2=>hPr i1 j1 oi oj si sj hne h1 h2 (hall' i1 (by have:=(List.getElem?_eq_some_iff.1 h1).1;simp;omega)) (hall' j1 (by have:=(List.getElem?_eq_some_iff.1 h2).1;simp;omega)) e1 e2)
  ·have hml:tl.length≤m:=by
    rcases Nat.lt_or_ge m tl.length with h | h
    ·have h1:=hall' (hd.length+m) (by simp;omega)
     rw[hhigh _ (Nat.le_refl _)]at h1;cases h1
    ·exact h
   rw[List.drop_of_length_le hml]at hl
   exact hl
 ·have hc:∀(n m:Nat),((List.range m).countP fun i=>!(Array.replicate n false).getD i true)≤m:=fun n m=>by
   have:=List.countP_le_length (l:=List.range m) (p:=fun i=>!(Array.replicate n false).getD i true)
   simpa using this
  exact hc _ _
 ·have hz:∀n j,(Array.replicate n false).getD j false≠true:=fun n j h=>by rw[getD_replicate_false]at h;cases h
  exact⟨by simp,fun i o _ h=>absurd h (hz _ _),.inl ⟨fun i _=>getD_replicate_false _ _,⟨⟨rfl,rfl,rfl,Nat.le_refl _,fun _ _=>rfl⟩,rfl,rfl,fun _ _=>rfl,fun i o s _ h=>absurd h (hz _ _),fun i o _ h=>absurd h (hz _ _)⟩,fun i j oi oj si sj _ _ _ h=>absurd h (hz _ _)⟩⟩
theorem wp_region_fine_pairs{P:Program}{id:Nat}{Q:Exit→Act→World→Prop}{a0:Act}{w0:World}{L:List Oper}(n:Nat)(T D:Nat→Value→World→Prop)(U:Nat→Nat→Value→Value→Prop)(hU:∀i j v x W,D i v W→T j x W→U i j v x∧U j i x v)(hm:P.follows .mixedOrders=true)(hp:plainG (L.take n) a0.tmps.size=true)
  (hb0:(L.zipIdx.all fun (o,i)=>o.after.all fun e=>!Region.binds .any e||decide (e.on<i))=true) (ht:tailB (L.take n) (L.drop n)=true)
  (hlast:∀i v W W',T i v W→Below W.heap.size W W'→T i v W')
  (hguard:∀(i:Nat) (o:Oper) j b,(L.take n)[i]?=some o→o.guard=some (j,b)→∀v W,T j v W→v=.bool b)
  (hstep:∀i o,(L.take n)[i]?=some o→∀(a:Act) (W:World),Below w0.heap.size w0 W→(∀j oj s,(L.take n)[j]?=some oj→oj.dst=some s→waits o j=true→T j (a.tmps.getD s undef) W)→(∀s,keepsB (L.take n) i s=true→a.tmps.getD s undef=a0.tmps.getD s undef)→Lays P (fun k v W'=>T k v W'∧D k v W) i o a W)
  (hend:∀(a:Act) (W:World),Below w0.heap.size w0 W→a.defers=a0.defers→a.tmps.size=a0.tmps.size→(∀s,((L.take n).all fun o=>decide (o.dst≠some s))=true→a.tmps.getD s undef=a0.tmps.getD s undef)→(∀i o s,(L.take n)[i]?=some o→o.dst=some s→T i (a.tmps.getD s undef) W)→(∀i j oi oj si sj,i≠j→(L.take n)[i]?=some oi→(L.take n)[j]?=some oj→oi.dst=some si→oj.dst=some sj→U i j (a.tmps.getD si undef) (a.tmps.getD sj undef))→wpList P L.toArray Q (L.drop n) a W) :
  (Code.region id L.toArray true).wp P Q a0 w0 :=
 wp_region_any hm (any_fine_pairs (L.take n) (L.drop n) (List.take_append_drop n L).symm T D U hU hp (by rw[List.take_append_drop];exact hb0) ht hlast hguard hstep (by rw[List.take_append_drop];exact hend))
theorem lays_old{P:Program}{T:Nat→Value→World→Prop}{D:Nat→Value→World→Prop}{i:Nat}{o:Oper}{a:Act}{W:World}(h:Lays P T i o a W)(hD:∀v,D i v W):Lays P (fun k v W'=>T k v W'∧D k v W) i o a W:=fun Q =>
 Oper.wp_mono (fun _ _ ⟨v,e,hB,hT⟩=>⟨v,e,hB,hT,hD v⟩) (h Q)
end Go.Own.Jf

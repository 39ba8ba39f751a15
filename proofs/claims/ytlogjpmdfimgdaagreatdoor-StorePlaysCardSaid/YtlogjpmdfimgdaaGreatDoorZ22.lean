/- The steps that lay a record: by contract. No condition but the sizes. | The record that lies at the beginning of sectors: by contract. No condition but the size. | All that lies in a half: by contract. No condition but that the power is on. -/
import Derived.Test.YtlogjpmdfimgdaaGreatDoorZ21
import Derived.Test.YtlogjpmdfimgdaaGreatDoorZ20
namespace Go.Proofs.YtlogjpmdfimgdaaGreatDoor.Jf
open Go Go.RowKit Go.Own.Jf Go.Own.Fr
attribute [-go_sem] Sm.execOp_bs run_string_add_if
attribute [local go_sem] Oper.semAt_some
attribute [local go_sem] agj61 csj61 szj61 agj88 csj88 szj88 agj25 isaj25 csj25 szj25 agj32 isaj32 csj32 szj32 agj38 isaj38 csj38 szj38 agj54 isaj54 csj54 szj54 agj78 isaj78 csj78 szj78 agj9 isaj9 csj9 szj9 zj61 zj88 zj78 alj78 alXA ldH0 ldH1 ldH2 ldH3 ldH4 ldH5 ldHA ldR0 ldR1 ldR2 ldRA stRA buj88 bsj78 Go.Own.Jf.stO
theorem prefix_of{l L:List Obj}(h:∀p,p<l.length→L[p]?=l[p]?):∃g,L=l++g:=by
 refine⟨L.drop l.length,?_⟩
 have e:L.take l.length=l:=by
  apply List.ext_getElem?
  intro p
  rw[List.getElem?_take]
  split
  ·exact h p ‹_›
  ·rw[List.getElem?_eq_none (by omega)]
 rw[←List.take_append_drop l.length L,e]
 simp
theorem rowV_sharp{A:Nat→Prop}{w:World}{l:List Obj}{sz n:Nat}{v:Value}{C:List Value}(h:RowV A w l sz n v C):RowV (fun p=>A p∧¬NotAt w v p) w l sz n v C:=by
 rcases h with h | ⟨i,c,X,t,hA,hv,h⟩
 ·exact .inl h
 ·exact .inr ⟨i,c,X,t,⟨hA,fun hn=>hn n c hv⟩,hv,h⟩
theorem laid_B8(g n:Nat)(t:List Nat)(h:B8 t):B8 (laidL g n t):=by
 have hb:B8 (bodyL g n t):=by
  refine B8.append ?_ h
  refine((B8.append (fun x hx=>?_) (be_B8 _ _)).append (be_B8 _ _)).append (be_B8 _ _)
  obtain rfl:=List.mem_singleton.1 hx;decide
 have ha:B8 (allL g n t):=B8.append hb (B8.flat fun i _=>fun x hx=>by
  unfold Sm.wordF at hx
  simp only[Sm.byteOf,List.mem_cons,List.not_mem_nil,or_false]at hx
  rcases hx with rfl | rfl | rfl | rfl <;> exact Nat.mod_lt _ (by decide))
 refine(((ha.take _).append (B8.rep _)).append (fun x hx=>?_)).append (ha.drop _)
 obtain rfl:=List.mem_singleton.1 hx;decide
set_option maxRecDepth 100000 in
set_option maxHeartbeats 8000000 in
theorem laying_any(w:World)(hR:Sm.Roots w)(l:List Obj)(d i fi n g u c:Nat)(q:Option Addr)(ts:List (List Nat))(t:ByteArray)(ht:t.size≤65535)(hts:ts.length≤100000)(hfi:fi≤100000)(hu:u≤100000) :
  Calls Tryz.prog 61 #[.agg (hcl (.pointer (some ⟨w.heap.size+i,0,none⟩)) fi n g (.slice q ts.length c) u),.string t] (Wd w l d) fun e w'=>∃v vs g' d',e=.returned v∧w'=Wd w (l++g') d'∧RowV (fun p=>l.length≤p) w (l++g') 1 vs.length v vs∧Steps w (l++g') (fun p=>l.length≤p) i vs ((⟨fi,n,g,u,ts⟩:Hf).laying (bys t)):=by
 have htw:IntKind.u64.wrap (ts.length:Int)=(ts.length:Int):=by
  have:ts.length<18446744073709551616:=by omega
  simp only[IntKind.wrap,IntKind.bits,IntKind.signed];simp;omega
 obtain⟨l1,hl1⟩:∃l1,l++[Obj.cells (hcl (.pointer (some ⟨w.heap.size+i,0,none⟩)) fi n g (.slice q ts.length c) u) 107 (0,0)]++[.cells (rcl g ts.length t) 145 (0,0)]++[.cells #[.slice none 0 0] 129 (0,0)]=l1:=⟨_,rfl⟩
 have h0:∀g',(l1++g')[l.length]?=some (.cells (hcl (.pointer (some ⟨w.heap.size+i,0,none⟩)) fi n g (.slice q ts.length c) u) 107 (0,0)):=fun g'=>by rw[←hl1];simp
 have h2:∀g',(l1++g')[l.length+2]?=some (.cells #[.slice none 0 0] 129 (0,0)):=fun g'=>by rw[←hl1,List.append_assoc,List.append_assoc,List.append_assoc,List.getElem?_append_right (by omega),Nat.add_sub_cancel_left];rfl
 have HL1:Hid (∃g',l1=l++g'):=Lib.hid ⟨_,by rw[←hl1,List.append_assoc,List.append_assoc]⟩
 have H0:=Lib.hid h0
 have H2:=Lib.hid h2
 have HLA:=Lib.hid fun d=>laid_any (Wd w l1 d) (hR.wd _ _) g ts.length t ht
 have HFL:=Lib.hid fun l d=>fromLast_any w l d (mkS (laidL g ts.length (bys t)))
 clear h0 h2
 refine(callsIn_wide (n:=3)).1 (callsIn_of_wp_marks Tryz.func61 rfl trivial ?_ rfl)
 refine wpIn_wide.2 ?_
 simp only[Tryz.ntmps61,List.size_toArray,List.length_cons,List.length_nil,Nat.reduceAdd,Nat.reduceSub,Array.replicate_succ,Array.replicate_zero,List.push_toArray,List.append_toArray,List.nil_append,List.cons_append]
 go_wp2_with fail
 have hl1':l++[Obj.cells (hcl (.pointer (some ⟨w.heap.size+i,0,none⟩)) fi n g (.slice q ts.length c) u) 107 (0,0),.cells (rcl g ts.length t) 145 (0,0),.cells #[.slice none 0 0] 129 (0,0)]=l1:=by rw[←hl1,List.append_assoc,List.append_assoc];rfl
 have hlen1:l1.length=l.length+3:=by rw[←hl1'];simp
 rw[hl1']
 refine(HLA.out _).mono ?_
 rintro e w' ⟨rfl,g1,d1,rfl⟩
 rw[Wd_wd]
 go_wp2_with fail
 refine(HFL.out _ _).mono ?_
 rintro e w' ⟨rfl,rfl⟩
 obtain⟨M,hM⟩:∃M,l1++g1++[Obj.cells #[.string (mkS (laidL g ts.length (bys t)))] 9 (0,0)]=M:=⟨_,rfl⟩
 obtain⟨m,hm⟩:∃m,(l1++g1).length=m:=⟨_,rfl⟩
 rw[hM,hm]
 have hMl:M.length=m+1:=by rw[←hM,←hm,List.length_append];rfl
 have hml:l.length+3≤m:=by rw[←hm,List.length_append,hlen1];omega
 have hM0:M[l.length]?=some (.cells (hcl (.pointer (some ⟨w.heap.size+i,0,none⟩)) fi n g (.slice q ts.length c) u) 107 (0,0)):=by rw[←hM,List.append_assoc];exact H0.out _
 have hM2:M[l.length+2]?=some (.cells #[.slice none 0 0] 129 (0,0)):=by rw[←hM,List.append_assoc];exact H2.out _
 have hMb:M[m]?=some (.cells #[.string (mkS (laidL g ts.length (bys t)))] 9 (0,0)):=by rw[←hM,←hm];simp
 have hML:∃g',M=l++g':=by
  obtain⟨g',hg'⟩:=HL1.out
  exact⟨g'++(g1++[_]),by rw[←hM,hg',List.append_assoc,List.append_assoc]⟩
 have hbT:bys (mkS (laidL g ts.length (bys t)))=laidL g ts.length (bys t):=bys_mkS _ (laid_B8 _ _ _ (B8.bys t))
 obtain⟨T,hT⟩:∃T,mkS (laidL g ts.length (bys t))=T:=⟨_,rfl⟩
 rw[hT]at hMb hbT ⊢
 have hTs:T.size=max 64 (50+t.size):=by rw[←bys_length,hbT,laid_length,bys_length]
 clear hl1 hl1' hlen1 HL1 HLA HFL H0 H2 hM hm hT
 go_wp2_with fail
 refine wp_sectors (tp:=20) (tq:=21) T (by omega) (by omega) (w.heap.size+m) (by rw[blk_at];exact hMb) rfl (LayI w M i l.length (l.length+2) (.cells (hcl (.pointer (some ⟨w.heap.size+i,0,none⟩)) fi n g (.slice q ts.length c) u) 107 (0,0)) fi u) (LayI.own (by rw[Wd_size])) ?start
  (fun x=>{ tmps:=#[.agg (hcl (.pointer (some ⟨w.heap.size+i,0,none⟩)) fi n g (.slice q ts.length c) u),.string t,.pointer (some ⟨w.heap.size+l.length,0,none⟩),undef,.slice none 0 0,.pointer (some ⟨w.heap.size+(l.length+1),0,none⟩),.pointer (some ⟨w.heap.size+(l.length+2),0,none⟩),.int .i64 ((x.1.1:Nat):Int),.string x.1.2,.pointer (some ⟨w.heap.size+l.length,3,none⟩),.int .u64 (g:Int),.pointer (some ⟨w.heap.size+l.length,4,none⟩),.slice q ts.length c,.int .i64 (ts.length:Int),.int .u64 (ts.length:Int),.string t,.agg (rcl g ts.length t),.agg (rcl g ts.length t),.string T,.func (.func 120) #[] #[.pointer (some ⟨w.heap.size+m,0,none⟩)],.int .i64 ((x.1.1:Nat):Int),.string x.1.2,undef,undef,undef,undef,undef,undef,undef,undef,undef,undef,undef,undef,undef,undef,undef,undef,undef,undef,undef,undef,undef,undef,undef,undef],defers:=[] }) ?assign ?body ?done
 case start=>exact⟨M,_,.slice none 0 0,[],rfl,Nat.le_refl _,fun _ _ _=>rfl,hM2,hM0,.inl ⟨rfl,rfl,rfl⟩,Steps.nil _ _ _ _⟩
 case assign =>
  intro lo x W K0 hK0
  refine wpIn_seq_k fun K2 hK2=>?_
  refine region_rnd_lit (by kernel_rfl) (by rintro⟨_,_,h⟩;exact h) ?_
  go_wp2
  refine region_rnd_lit (by kernel_rfl) (by rintro⟨_,_,h⟩;exact h) ?_
  go_wp2
  exact hK0
 case body =>
  intro lo pre x W hW hlen
  obtain⟨L,d2,v,vs,rfl,hLM,hsame,h6,h2,hrow,hst⟩:=hW
  have hx1:=x.2.1
  have hvl:vs.length≤40000:=by rw[hst.1];have:=stL_length fi u pre;omega
  have fin:∀(a':Act) (L3:List Obj) (v3:Value) (vs3:List Value) (e:Nat),L.length≤L3.length→(∀p,p<L.length→p≠l.length+2→NotAt w v p→L3[p]?=L[p]?)→L3[l.length+2]?=some (.cells #[v3] 129 (0,0))→RowV (fun p=>M.length≤p) w L3 1 vs3.length v3 vs3→Steps w L3 (fun p=>M.length≤p) i vs3 (stL fi u (pre++[x]))→ownPostK (KeepsB (w.heap.size+m)) (LayI w M i l.length (l.length+2) (.cells (hcl (.pointer (some ⟨w.heap.size+i,0,none⟩)) fi n g (.slice q ts.length c) u) 107 (0,0)) fi u) (fun _ _ _=>False) (pre++[x]) (Wd w L d2) .normal a' (Wd w L3 e):=fun a' L3 v3 vs3 e k1 k2 k3 k4 k5=>by
   refine⟨⟨by simp[Wd];omega,fun k ob hk hc=>?_⟩,fun ob hob=>?_,⟨L3,e,v3,vs3,rfl,by omega,fun p hp hne=>?_,k3,?_,k4,k5⟩⟩
   ·simp only[Wd,Array.getElem?_append,List.getElem?_toArray]at hk ⊢
    by_cases h1:k<w.heap.size
    ·rw[if_pos h1]at hk ⊢;exact hk
    ·rw[if_neg h1]at hk ⊢
     have hkl:=(List.getElem?_eq_some_iff.1 hk).1
     rw[k2 _ hkl (fun e2=>by rw[e2,h6]at hk;obtain rfl:=Option.some.inj hk;cases hc) (hrow.cellsAt hk hc),hk]
   ·rw[blk_at,hsame m (by omega) (by omega),hMb]at hob
    rw[blk_at,k2 m (by omega) (by omega) (rowV_off hrow (by omega)),hsame m (by omega) (by omega),hMb];exact hob
   ·rw[k2 p (by omega) hne (rowV_off hrow (by omega)),hsame p hp hne]
   ·rw[k2 l.length (by omega) (by omega) (rowV_off hrow (by omega)),h2]
  have hLO:¬LetsOut (ownPostK (KeepsB (w.heap.size+m)) (LayI w M i l.length (l.length+2) (.cells (hcl (.pointer (some ⟨w.heap.size+i,0,none⟩)) fi n g (.slice q ts.length c) u) 107 (0,0)) fi u) (fun _ _ _=>False) (pre++[x]) (Wd w L d2)):=by rintro⟨_,_,h⟩;exact h
  generalize ownPostK (KeepsB (w.heap.size+m)) (LayI w M i l.length (l.length+2) (.cells (hcl (.pointer (some ⟨w.heap.size+i,0,none⟩)) fi n g (.slice q ts.length c) u) 107 (0,0)) fi u) (fun _ _ _=>False) (pre++[x]) (Wd w L d2)=Q0 at fin hLO ⊢
  have FIN:=Lib.hid fin
  clear fin
  refine wpIn_block ?_
  refine wpIn_seq_k fun K hK=>?_
  have hpost:∀(x22 x23 x24 x25 x26 x27 x28 x29:Value) (L1:List Obj) (d':Nat) (v1:Value) (us:List Value),us.length≤40001→L.length≤L1.length→(∀p,p<L.length→p≠l.length+2→NotAt w v p→L1[p]?=L[p]?)→L1[l.length+2]?=some (.cells #[v1] 129 (0,0))→RowV (fun p=>M.length≤p∧(NotAt w v p→L.length≤p)) w L1 1 us.length v1 us→Steps w L1 (fun p=>M.length≤p) i us (stL fi u pre++(if x.1.1=0 then [Stp.f]else []))→(∀p,p<M.length→NotAt w v p)→K ({ tmps:=#[.agg (hcl (.pointer (some ⟨w.heap.size+i,0,none⟩)) fi n g (.slice q ts.length c) u),.string t,.pointer (some ⟨w.heap.size+l.length,0,none⟩),undef,.slice none 0 0,.pointer (some ⟨w.heap.size+(l.length+1),0,none⟩),.pointer (some ⟨w.heap.size+(l.length+2),0,none⟩),.int .i64 ((x.1.1:Nat):Int),.string x.1.2,.pointer (some ⟨w.heap.size+l.length,3,none⟩),.int .u64 (g:Int),.pointer (some ⟨w.heap.size+l.length,4,none⟩),.slice q ts.length c,.int .i64 (ts.length:Int),.int .u64 (ts.length:Int),.string t,.agg (rcl g ts.length t),.agg (rcl g ts.length t),.string T,.func (.func 120) #[] #[.pointer (some ⟨w.heap.size+m,0,none⟩)],.int .i64 ((x.1.1:Nat):Int),.string x.1.2,x22,x23,x24,x25,x26,x27,x28,x29,undef,undef,undef,undef,undef,undef,undef,undef,undef,undef,undef,undef,undef,undef,undef,undef],defers:=[] }) (Wd w L1 d'):=by
   intro x22 x23 x24 x25 x26 x27 x28 x29 L1 d' v1 us k0 k1 k2 k3 k4 k5 k6
   refine hK _ _ ?_
   clear hK
   have hhalf:L1[l.length]?=some (.cells (hcl (.pointer (some ⟨w.heap.size+i,0,none⟩)) fi n g (.slice q ts.length c) u) 107 (0,0)):=by rw[k2 l.length (by omega) (by omega) (k6 _ (by omega)),h2]
   have HBH:Hid (blk (Wd w L1 d') (w.heap.size+l.length)=some (.cells (hcl (.pointer (some ⟨w.heap.size+i,0,none⟩)) fi n g (.slice q ts.length c) u) 107 (0,0))):=Lib.hid (by rw[blk_at];exact hhalf)
   have HBX:Hid (blk (Wd w L1 d') (w.heap.size+(l.length+2))=some (.cells #[v1] 129 (0,0))):=Lib.hid (by rw[blk_at];exact k3)
   have HR:=Lib.hid k4
   have HST:=Lib.hid k5
   have HK2:=Lib.hid k2
   have HK3:=Lib.hid k3
   have HL1:Hid (M.length≤L1.length∧L.length≤L1.length):=Lib.hid ⟨by omega,k1⟩
   have HM3:Hid (l.length+3<M.length):=Lib.hid (by omega)
   clear hMl
   clear k1 k2 k3 k4 k5 k6 hhalf h6 h2 hrow hst hsame hMb hM0 hM2
   refine region_rnd (by kernel_rfl) (by kernel_rfl) (by rintro⟨a,w,h⟩;exact hLO ⟨a,w,h⟩) ?_
   refine any_fine_drop 9 (TL [eqv v1,eqv (.agg (hcl (.pointer (some ⟨w.heap.size+i,0,none⟩)) fi n g (.slice q ts.length c) u)),eqv (.pointer (some ⟨w.heap.size+l.length,5,none⟩)),eqv (.int .i64 (u:Int)),eqv (.int .i64 ((x.1.1:Nat):Int)),eqv (.int .i64 (((u+x.1.1:Nat)):Int)),eqv (.string x.1.2),stB w L1.length i (.w (fi+(u+x.1.1)) (bys x.1.2)),slB w L1.length i (.w (fi+(u+x.1.1)) (bys x.1.2))]) (by kernel_rfl) (by kernel_rfl) (by kernel_rfl) (TL_last (List.forall_mem_cons.2 ⟨eqv_last _,List.forall_mem_cons.2 ⟨eqv_last _,List.forall_mem_cons.2 ⟨eqv_last _,List.forall_mem_cons.2 ⟨eqv_last _,List.forall_mem_cons.2 ⟨eqv_last _,List.forall_mem_cons.2 ⟨eqv_last _,List.forall_mem_cons.2 ⟨eqv_last _,List.forall_mem_cons.2 ⟨stB_last _ _ _ _,List.forall_mem_cons.2 ⟨slB_last _ _ _ _,fun _ h=>(List.not_mem_nil h).elim⟩⟩⟩⟩⟩⟩⟩⟩⟩)) (TL_no_guard (by kernel_rfl)) ?_ ?_
   ·intro ix o ho a W hB hdep hfix
    simp only[List.take_succ_cons,List.take_zero]at ho hdep hfix
    match ix,ho with
    |0,ho =>
     obtain rfl:=Option.some.inj ho
     exact lays_eq _ rfl (exec_load (hfix 6 (by decide +kernel)) (ldX_box (isaj78 W) (blk_below hB HBX.out)))
    |1,ho =>
     obtain rfl:=Option.some.inj ho
     exact lays_eq _ rfl (exec_load (hfix 2 (by decide +kernel)) (ldHA agj61 (blk_below hB HBH.out)))
    |2,ho =>
     obtain rfl:=Option.some.inj ho
     exact lays_eq _ rfl (exec_field (off:=5) (hfix 2 (by decide +kernel)) (by simp[go_sem]))
    |3,ho =>
     obtain rfl:=Option.some.inj ho
     have e1:a.tmps.getD 32 undef=.pointer (some ⟨w.heap.size+l.length,5,none⟩):=hdep 2 _ 32 rfl rfl (by decide +kernel)
     exact lays_eq _ rfl (exec_load e1 (ldH5 (isa3 W) (blk_below hB HBH.out)))
    |4,ho =>
     obtain rfl:=Option.some.inj ho
     exact lays_eq _ rfl (exec_move (hfix 7 (by decide +kernel)))
    |5,ho =>
     obtain rfl:=Option.some.inj ho
     have e1:a.tmps.getD 33 undef=.int .i64 (u:Int):=hdep 3 _ 33 rfl rfl (by decide +kernel)
     have e2:a.tmps.getD 34 undef=.int .i64 ((x.1.1:Nat):Int):=hdep 4 _ 34 rfl rfl (by decide +kernel)
     exact lays_eq _ rfl (exec_add e1 e2 (by omega) (by omega))
    |6,ho =>
     obtain rfl:=Option.some.inj ho
     exact lays_eq _ rfl (exec_move (hfix 8 (by decide +kernel)))
    |7,ho =>
     obtain rfl:=Option.some.inj ho
     have e1:a.tmps.getD 31 undef=.agg (hcl (.pointer (some ⟨w.heap.size+i,0,none⟩)) fi n g (.slice q ts.length c) u):=hdep 1 _ 31 rfl rfl (by decide +kernel)
     have e2:a.tmps.getD 35 undef=.int .i64 (((u+x.1.1:Nat)):Int):=hdep 5 _ 35 rfl rfl (by decide +kernel)
     have e3:a.tmps.getD 36 undef=.string x.1.2:=hdep 6 _ 36 rfl rfl (by decide +kernel)
     obtain⟨gS,dS,rfl⟩:=below_grows hB
     refine lays_call #[.agg (hcl (.pointer (some ⟨w.heap.size+i,0,none⟩)) fi n g (.slice q ts.length c) u),.int .i64 (((u+x.1.1:Nat)):Int),.string x.1.2] (by simp[Act.eval,e1,e2,e3]) (by kernel_rfl) ((write_step w (L1++gS) dS i fi n g u (.slice q ts.length c) (u+x.1.1) x.1.2 (by omega)).mono ?_)
     rintro e W' ⟨z,g',d',he,rfl,hs⟩
     refine⟨z,he,?_,⟨_,_,rfl,hs.mono fun p hp hlt=>⟨by rw[List.length_append]at hp;omega,rfl⟩⟩⟩
     have:=(Grows.of (Wd w (L1++gS) dS) g' d').below
     rwa [Wd_wd]at this
    |8,ho =>
     obtain rfl:=Option.some.inj ho
     have e1:stB w L1.length i (.w (fi+(u+x.1.1)) (bys x.1.2)) (a.tmps.getD 37 undef) W:=hdep 7 _ 37 rfl rfl (by decide +kernel)
     exact lays_slB (fun L5 d5 e5=>by have h5:=hB.size;rw[e5,Wd_size,Wd_size]at h5;omega) e1 (fun _ _ h=>h)
    |ix+9,ho=>simp at ho
   ·intro a W hB hd hsz hfix hT
    simp only[List.take_succ_cons,List.take_zero,List.drop_succ_cons,List.drop_zero]at hfix hT ⊢
    have f6:a.tmps.getD 6 undef=.pointer (some ⟨w.heap.size+(l.length+2),0,none⟩):=hfix 6 (by decide +kernel)
    have f30:a.tmps.getD 30 undef=v1:=hT 0 _ 30 rfl rfl
    have g38:slB w L1.length i (.w (fi+(u+x.1.1)) (bys x.1.2)) (a.tmps.getD 38 undef) W:=hT 8 _ 38 rfl rfl
    rw[frame_lit a 46 hsz hd]
    clear hfix hT hsz hd
    simp only[List.range,List.range.loop,List.map]
    generalize a.tmps=t at *
    simp only[f6,f30]
    clear f6 f30
    obtain⟨gS,dS,rfl⟩:=below_grows hB
    obtain⟨y,b,L2,d6,e6,hb,hv38,hy,hs⟩:=g38
    obtain rfl:=Wd_inj e6
    simp only[hv38]
    have hy1:=hs.one
    obtain⟨L2,hL2⟩:∃L2,L1++gS=L2:=⟨_,rfl⟩
    rw[hL2]at hy hs ⊢
    have hsm:∀p,p<L1.length→L2[p]?=L1[p]?:=fun p hp=>by rw[←hL2,List.getElem?_append_left hp]
    have hl2:L1.length≤L2.length:=by rw[←hL2,List.length_append];omega
    have hr2:RowV (fun p=>M.length≤p) w L2 1 us.length v1 us:=HR.out.mono fun p hp hlt=>⟨hp.1,hsm p hlt⟩
    have hst2:Steps w L2 (fun p=>M.length≤p∧NotAt w v1 p) i (us++[y]) (stL fi u (pre++[x])):=by
     rw[stL_snoc,stO_eq,←List.append_assoc]
     refine Steps.append ((HST.out.mono fun p hp hlt=>⟨hp,hsm p hlt⟩:Steps w L2 (fun p=>M.length≤p) i us _).keep hr2) (Steps.single (hs.mono fun p hp hlt=>⟨⟨by have:=HL1.out;omega,HR.out.beyond hp⟩,rfl⟩))
    have HR2:=Lib.hid hr2
    have HST2:=Lib.hid hst2
    have HLT:Hid (RowV (fun _=>True) w L2 1 1 (.slice (some ⟨w.heap.size+b,0,none⟩) 1 1) [y]):=Lib.hid (.inr ⟨b,1,[y],131,trivial,rfl,hy,rfl,Nat.le_refl _,rfl⟩)
    have HSM:=Lib.hid hsm
    have HL2:=Lib.hid hl2
    clear hL2 hy hs hB hsm hl2 hr2 hst2 hv38 e6
    go_wp2_with (refine wpList_row rfl (.tmp 30) (.tmp 38) 129 131 rfl rt78 (A:=fun p=>M.length≤p) (B:=fun _=>True) (fun p hp=>by have:=HL2.out;have:=HL1.out;omega) v1 us.length us rfl HR2.out (.slice (some ⟨w.heap.size+b,0,none⟩) 1 1) 1 [y] rfl HLT.out (by intro u hu;rw[List.mem_singleton.1 hu];exact hy1) (by omega) ?_)
    intro v3 l3 d3 HR3 HG3 HS3
    have hv1:=RowV.one HR3.out
    have hb6:l3[l.length+2]?=some (.cells #[v1] 129 (0,0)):=by rw[HS3.out _ (by have:=HL2.out;have:=HL1.out;have:=HM3.out;omega) (rowV_off HR2.out (by have:=HM3.out;omega)),HSM.out _ (by have:=HL1.out;have:=HM3.out;omega)];exact HK3.out
    go_wp2
    refine FIN.out _ _ v3 (us++[y]) _ (by rw[List.length_set];have:=HG3.out;have:=HL2.out;have:=HL1.out;omega) (fun p hp hne hn=>?_) (set_some hb6) ?_ ?_
    ·rw[List.getElem?_set_ne (fun e=>hne e.symm),HS3.out p (by have:=HL2.out;have:=HL1.out;omega) (rowV_off HR.out fun h=>by have:=h.2 hn;omega),HSM.out p (by have:=HL1.out;omega)]
     exact HK2.out p hp hne hn
    ·rw[List.length_append]
     exact HR3.out.mono fun p hp hlt=>⟨hp,List.getElem?_set_ne (by have:=HM3.out;omega)⟩
    ·exact HST2.out.mono fun p hp hlt=>⟨hp.1,by rw[List.getElem?_set_ne (by have:=HM3.out;omega)];exact HS3.out p hlt hp.2⟩
  refine wpIn_seq_k fun K2 hK2=>?_
  have hA7:∀p,(L++[Obj.cells #[Value.func (.func 86) #[.pointer (some ⟨w.heap.size+i,0,none⟩)] #[]] 131 (0,0)]).length≤p→M.length≤p∧(NotAt w v p→L.length≤p):=fun p hp=>by
   rw[List.length_append,List.length_singleton]at hp
   exact⟨by omega,fun _=>by omega⟩
  have hrow':RowV (fun p=>M.length≤p∧(NotAt w v p→L.length≤p)) w L 1 vs.length v vs:=(rowV_sharp hrow).mono fun p hp _=>⟨⟨hp.1,fun h=>absurd h hp.2⟩,rfl⟩
  have hoff:∀p,p<M.length→NotAt w v p:=fun p hp=>rowV_off hrow (by omega)
  have HPO:=Lib.hid hpost
  have HR7:=Lib.hid hrow'
  have HOFF:=Lib.hid hoff
  have HA7:=Lib.hid hA7
  have HST:=Lib.hid hst
  have HMl:Hid (l.length+3<M.length∧M.length≤L.length):=Lib.hid ⟨by omega,hLM⟩
  clear hK hpost hrow hrow' hoff hA7 hst hsame hMb hM0 hM2 hMl hLM
  refine region_rnd_lit (by kernel_rfl) (by rintro⟨a,w,h⟩;exact hLO ⟨a,w,h⟩) ?_
  by_cases hx0:x.1.1=0
  ·have hb:(((x.1.1:Nat):Int) == 0)=true:=by rw[hx0];rfl
   have HX0:=Lib.hid hx0
   clear hx0
   go_wp2
   refine wpIn_cond_true rfl ?_
   refine region_rnd_lit (by kernel_rfl) (by rintro⟨a,w,h⟩;exact hLO ⟨a,w,h⟩) ?_
   have HST7:Hid (Steps w L (fun p=>M.length≤p∧NotAt w v p) i (vs++[.func (.func 86) #[.pointer (some ⟨w.heap.size+i,0,none⟩)] #[]]) (stL fi u pre++(if x.1.1=0 then [Stp.f]else []))):=Lib.hid (by
    rw[if_pos HX0.out]
    exact Steps.append (HST.out.keep (HR7.out.mono fun p hp _=>⟨hp.1,rfl⟩)) (Steps.single rfl))
   clear hb
   have h1f:(Value.func (.func 86) #[.pointer (some ⟨w.heap.size+i,0,none⟩)] #[]).oneCell'=true:=rfl
   have HR7':Hid (RowV (fun p=>M.length≤p∧(NotAt w v p→L.length≤p)) w (L++[Obj.cells #[Value.func (.func 86) #[.pointer (some ⟨w.heap.size+i,0,none⟩)] #[]] 131 (0,0)]) 1 vs.length v vs):=Lib.hid (HR7.out.mono fun p hp hlt=>⟨hp,List.getElem?_append_left hlt⟩)
   have HLT7:Hid (RowV (fun _=>True) w (L++[Obj.cells #[Value.func (.func 86) #[.pointer (some ⟨w.heap.size+i,0,none⟩)] #[]] 131 (0,0)]) 1 1 (.slice (some ⟨w.heap.size+L.length,0,none⟩) 1 1) [.func (.func 86) #[.pointer (some ⟨w.heap.size+i,0,none⟩)] #[]]):=Lib.hid (.inr ⟨L.length,1,[_],131,trivial,rfl,by simp,rfl,Nat.le_refl _,rfl⟩)
   go_wp2_with (refine wpList_row rfl (.tmp 24) (.tmp 28) 129 131 rfl rt78 (A:=fun p=>M.length≤p∧(NotAt w v p→L.length≤p)) (B:=fun _=>True) HA7.out v vs.length vs rfl HR7'.out (.slice (some ⟨w.heap.size+L.length,0,none⟩) 1 1) 1 [.func (.func 86) #[.pointer (some ⟨w.heap.size+i,0,none⟩)] #[]] rfl HLT7.out (by intro u hu;rw[List.mem_singleton.1 hu];rfl) (by omega) ?_)
   intro v3 l3 d3 HR3 HG3 HS3
   have hv1:=RowV.one HR3.out
   have hLL:∀p,p<L.length→NotAt w v p→l3[p]?=L[p]?:=fun p hp hn=>by
    rw[HS3.out p (by first | omega | (rw[List.length_append];omega)) hn,List.getElem?_append_left hp]
   have hLl:L.length+1≤l3.length:=by have:=HG3.out;first | exact this | (rw[List.length_append]at this;exact this)
   have hb6:l3[l.length+2]?=some (.cells #[v] 129 (0,0)):=by rw[hLL _ (by have:=HMl.out;omega) (HOFF.out _ (by have:=HMl.out;omega))];exact h6
   have HLL:=Lib.hid hLL
   have HLl:=Lib.hid hLl
   clear hLL hLl
   go_wp2
   refine HPO.out _ _ _ _ _ _ _ _ _ _ v3 (vs++[.func (.func 86) #[.pointer (some ⟨w.heap.size+i,0,none⟩)] #[]]) (by rw[List.length_append,List.length_singleton];omega) (by rw[List.length_set];have:=HLl.out;omega) (fun p hp hne hn=>?_) (set_some hb6) ?_ ?_ HOFF.out
   ·rw[List.getElem?_set_ne (fun e=>hne e.symm)];exact HLL.out p hp hn
   ·rw[List.length_append]
    exact HR3.out.mono fun p hp hlt=>⟨hp,List.getElem?_set_ne (by have:=HMl.out;omega)⟩
   ·exact HST7.out.mono fun p hp hlt=>⟨hp.1,by rw[List.getElem?_set_ne (by have:=HMl.out;omega)];exact HLL.out p hlt hp.2⟩
  ·have hb:(((x.1.1:Nat):Int) == 0)=false:=by
    have:¬((x.1.1:Nat):Int)=0:=by omega
    simpa using this
   have HX0:=Lib.hid hx0
   clear hx0
   go_wp2
   refine wpIn_cond_false rfl ?_
   refine wpIn_skip ?_
   refine HPO.out _ _ _ _ _ _ _ _ L _ v vs (by omega) (Nat.le_refl _) (fun _ _ _ _=>rfl) h6 HR7.out ?_ HOFF.out
   rw[if_neg HX0.out,List.append_nil]
   exact HST.out
 case done =>
  intro D W hD hW hK0
  obtain⟨L,d2,v,vs,rfl,hLM,hsame,h6,h2,hrow,hst⟩:=hW
  have hN1:T.size≤65585:=by omega
  have hN0:1≤T.size:=by omega
  have hvl:vs.length≤40000:=by rw[hst.1];have:=stL_length fi u (cksB T ((T.size+63)/64) ((T.size+63)/64));rw[cksB_length]at this;omega
  have hlay:stL fi u (cksB T ((T.size+63)/64) ((T.size+63)/64))++[Stp.f]=(⟨fi,n,g,u,ts⟩:Hf).laying (bys t):=by
   have h1:=stL_down ⟨fi,n,g,u,ts⟩ T ((T.size+63)/64) (by omega) (by omega)
   have h2:stL fi u (cksB T ((T.size+63)/64) ((T.size+63)/64))=_:=h1
   rw[h2]
   unfold Hf.laying
   show Hf.down _ (bys T) _++_=Hf.down _ (laidL g ts.length (bys t)) (((laidL g ts.length (bys t)).length-1)/64)++_
   rw[←hbT,bys_length,show (T.size+63)/64-1=(T.size-1)/64 by omega]
  rw[Wd_size,hMl]at hD
  obtain⟨jd,rfl⟩:∃jd,D=w.heap.size+jd:=⟨D-w.heap.size,by omega⟩
  rw[Wd_at]at hK0
  have hjd:jd<L.length:=(List.getElem?_eq_some_iff.1 hK0).1
  have hml1:∀p,p<l.length→L[p]?=l[p]?:=fun p hp=>by
   obtain⟨g',hg'⟩:=hML
   rw[hsame p (by omega) (by omega),hg',List.getElem?_append_left hp]
  have hnjd:NotAt w v jd:=hrow.cellsAt hK0 rfl
  have HST:Hid (Steps w L (fun p=>M.length≤p∧NotAt w v p) i (vs++[.func (.func 86) #[.pointer (some ⟨w.heap.size+i,0,none⟩)] #[]]) ((⟨fi,n,g,u,ts⟩:Hf).laying (bys t))):=Lib.hid (by
   rw[←hlay]
   exact Steps.append (hst.keep hrow) (Steps.single rfl))
  have HR9:Hid (RowV (fun p=>M.length≤p) w (L++[Obj.cells #[Value.func (.func 86) #[.pointer (some ⟨w.heap.size+i,0,none⟩)] #[]] 131 (0,0)]) 1 vs.length v vs):=Lib.hid (hrow.mono fun p hp hlt=>⟨hp,List.getElem?_append_left hlt⟩)
  have HLT9:Hid (RowV (fun _=>True) w (L++[Obj.cells #[Value.func (.func 86) #[.pointer (some ⟨w.heap.size+i,0,none⟩)] #[]] 131 (0,0)]) 1 1 (.slice (some ⟨w.heap.size+L.length,0,none⟩) 1 1) [.func (.func 86) #[.pointer (some ⟨w.heap.size+i,0,none⟩)] #[]]):=Lib.hid (.inr ⟨L.length,1,[_],131,trivial,rfl,by simp,rfl,Nat.le_refl _,rfl⟩)
  have HOFF:Hid (∀p,p<l.length→NotAt w v p):=Lib.hid fun p hp=>rowV_off hrow (by omega)
  have HML1:=Lib.hid hml1
  have HK0:=Lib.hid hK0
  have HNJ:=Lib.hid hnjd
  have HMl:Hid (l.length+3<M.length∧M.length≤L.length∧M.length≤jd∧jd<L.length):=Lib.hid ⟨by omega,hLM,by omega,hjd⟩
  have hA9:∀p,(L++[Obj.cells #[Value.func (.func 86) #[.pointer (some ⟨w.heap.size+i,0,none⟩)] #[]] 131 (0,0)]).length≤p→M.length≤p:=fun p hp=>by
   rw[List.length_append]at hp;omega
  have HA9:=Lib.hid hA9
  have h1f:(Value.func (.func 86) #[.pointer (some ⟨w.heap.size+i,0,none⟩)] #[]).oneCell'=true:=rfl
  show Exit.inBlock 0 _ .normal { tmps:=_,defers:=({ target:=.collected (w.heap.size+jd),args:=#[] }:Deferred) :: [] } _
  have hmk:({ target:=.collected (w.heap.size+jd),args:=#[] }:Deferred) :: []=marks w [jd]:=rfl
  rw[hmk]
  clear hmk hA9 hK0 hnjd hml1 hrow hst hsame hlay hbT hTs hMb hM0 hM2 hML hMl hLM hjd hD hN0 hN1 hml
  go_wp2_with (refine wpList_row rfl (.tmp 40) (.tmp 44) 129 131 rfl rt78 (A:=fun p=>M.length≤p) (B:=fun _=>True) HA9.out v vs.length vs rfl HR9.out (.slice (some ⟨w.heap.size+L.length,0,none⟩) 1 1) 1 [.func (.func 86) #[.pointer (some ⟨w.heap.size+i,0,none⟩)] #[]] rfl HLT9.out (by intro u hu;rw[List.mem_singleton.1 hu];rfl) (by omega) ?_)
  intro v3 l3 d3 HR3 HG3 HS3
  have hv1:=RowV.one HR3.out
  have hLL:∀p,p<L.length→NotAt w v p→l3[p]?=L[p]?:=fun p hp hn=>by
   rw[HS3.out p (by first | omega | (rw[List.length_append];omega)) hn,List.getElem?_append_left hp]
  have HLL:=Lib.hid hLL
  clear hLL
  go_wp2
  show LeavesInM _ _ _ _ _ _ _ _ _
  refine leaves_marks w d3 [jd] _ (fun j hj=>by obtain rfl:=List.mem_singleton.1 hj;rw[HLL.out _ HMl.out.2.2.2 HNJ.out];exact HK0.out) (by simp) (fun L' hL'=>?_)
  have hL2:∀p,p≠jd→L'[p]?=l3[p]?:=fun p hp=>hL' p (fun e=>hp (List.mem_singleton.1 e))
  obtain⟨g',rfl⟩:∃g',L'=l++g':=prefix_of fun p hp=>by
   rw[hL2 p (by have:=HMl.out;omega),HLL.out p (by have:=HMl.out;omega) (HOFF.out p hp)];exact HML1.out p hp
  have hc:∀(p:Nat) c t f,l3[p]?=some (.cells c t f)→(l++g')[p]?=some (.cells c t f):=fun p c t f hp=>by
   rw[hL2 p (fun e=>?_)];· exact hp
   rw[e,HLL.out _ HMl.out.2.2.2 HNJ.out,HK0.out]at hp
   cases hp
  refine⟨_,results_tmp rfl _ _ _,v3,vs++[.func (.func 86) #[.pointer (some ⟨w.heap.size+i,0,none⟩)] #[]],g',d3,rfl,rfl,?_,?_⟩
  ·rw[List.length_append]
   exact HR3.out.monoC fun p c t f hp hlt=>⟨by have:=HMl.out;omega,hc _ _ _ _ hlt⟩
  ·refine(HST.out.mono (L':=l3) (B:=fun p=>M.length≤p) fun p hp hlt=>⟨hp.1,HLL.out p hlt hp.2⟩).monoC fun p c t f hp hlt=>⟨by have:=HMl.out;omega,hc _ _ _ _ hlt⟩
end Go.Proofs.YtlogjpmdfimgdaaGreatDoor.Jf
namespace Go.Proofs.YtlogjpmdfimgdaaGreatDoor.Jf
open Go.RowKit Go.Own.Jf Go.Own.Fr
attribute [-go_sem] Sm.execOp_bs run_string_add_if
attribute [local go_sem] agj88 szj88 csj88 agj38 isaj38 agj9 isaj9 csj9 szj9 ldR0 ldR1 ldR2 stRA zj88 alXA bsj32s buj88 buj88z
def takV(x:List Nat):Array Value :=
 match takenL x with
 |none=>#[.agg (rcl 0 0 .empty),.bool false]
 |some (g,n,t)=>#[.agg (rcl g n (mkS t)),.bool true]
theorem cut1(s:ByteArray)(i:Nat)(h:i<s.size):s.extract i (i+1)=mkS [gi (bys s) i]:=by
 apply bys_inj
 rw[bys_mkS _ (fun n hn=>by rw[List.mem_singleton.1 hn];exact gi_bys_lt s i),bys_extract,Nat.add_sub_cancel_left]
 rw[List.drop_eq_getElem_cons (by rw[bys_length];exact h),List.take_succ_cons,List.take_zero]
 simp[gi,List.getD,bys_length,h]
theorem mk_ne{a:Nat}(h:a≠76)(h8:a<256):mkS [a]≠mkS [76]:=fun e=>h (by
 have:=congrArg bys e
 rw[bys_mkS _ (fun n hn=>by rw[List.mem_singleton.1 hn];exact h8),bys_mkS _ (fun n hn=>by rw[List.mem_singleton.1 hn];decide)]at this
 simpa using this)
theorem str_ne'{a b:ByteArray}(h:a≠b):(a.toList == b.toList)=false:=by
 rw[beq_eq_false_iff_ne]
 intro h2
 rw[ByteArray.toList_eq,ByteArray.toList_eq]at h2
 exact h (ByteArray.ext (Array.toList_inj.1 h2))
theorem lit76:(mkS [76]).toList=[76]:=by rw[ByteArray.toList_eq];rfl
theorem mk_eq76:((mkS [76]).toList == [76])=true:=by rw[lit76];rfl
theorem mk_ne76{a:Nat}(h:a≠76)(h8:a<256):((mkS [a]).toList == [76])=false:=by
 have:=str_ne' (mk_ne h h8)
 rwa [lit76]at this
theorem number_grows(s:ByteArray)(hs:s.size≤8)(W:World):Calls Tryz.prog 98 #[.string s] W fun e w'=>e=.returned (.int .u64 ((val (bys s):Nat):Int))∧Grows W w' :=
 grows_of (fun w l d=>(number_any s hs w l d).mono fun _ _ ⟨h1,d',h2⟩=>⟨h1,[],d',by rw[h2,List.append_nil]⟩) W
theorem val_cut(s:ByteArray)(a k:Nat)(hk:k≤8):val (bys (s.extract a (a+k)))<18446744073709551616:=by
 have h:=val_lt (bys (s.extract a (a+k))) (B8.bys _)
 have hl:(bys (s.extract a (a+k))).length≤8:=by rw[bys_extract,List.length_take];omega
 have:=Nat.pow_le_pow_right (show 0<256 by decide) hl
 omega
theorem of_blk{W:World}(hR:Sm.Roots W){b:Nat}{s:ByteArray}(hb:blk W b=some (.cells #[.string s] 9 (0,0)))(hs:s.size≤2000000) :
  Calls Tryz.prog 100 #[.slice (some ⟨b,0,none⟩) 1 1] W fun e w'=>e=.returned (.string (mkS (Sm.digL (bys s))))∧Grows W w':=by
 have e:Sm.allB [s]=bys s:=by simp[Sm.allB]
 have hp:Sm.Parts W (some ⟨b,0,none⟩) [s]:=by
  intro j t hj
  obtain⟨rfl,rfl⟩:j=0∧s=t:=by
   match j,hj with
   |0,hj=>exact⟨rfl,by simpa using hj⟩
   |j+1,hj=>simp at hj
  exact⟨_,_,_,_,rfl,hb,rfl⟩
 refine(Sm.of_any W hR _ 1 [s] hp (by rw[e,bys_length];omega) (by show 1≤_;omega)).mono ?_
 rintro e' w' ⟨rfl,hg⟩
 exact⟨by rw[e],hg⟩
theorem roots_below{w W:World}(h:Sm.Roots w)(hB:Below w.heap.size w W):Sm.Roots W:=let ⟨t,f,e⟩:=h;⟨t,f,blk_below hB e⟩
theorem digB8(x:List Nat):B8 (Sm.digL x):=by
 unfold Sm.digL Sm.textL
 exact B8.flat fun i _=>B8.four (Nat.mod_lt _ (by decide)) (Nat.mod_lt _ (by decide)) (Nat.mod_lt _ (by decide)) (Nat.mod_lt _ (by decide))
theorem bys_append(a b:ByteArray):bys (a++b)=bys a++bys b:=by simp[bys,ByteArray.data_append]
theorem pre_set{l L1:List Obj}{i:Nat}{X:Obj}(h:∃g,L1=l++g)(hi:l.length≤i):∃g,L1.set i X=l++g:=by
 obtain⟨g,rfl⟩:=h
 exact⟨_,List.set_append_right _ _ hi⟩
theorem pre_app{l L1:List Obj}(h:∃g,L1=l++g)(m:List Obj):∃g,L1++m=l++g:=by
 obtain⟨g,rfl⟩:=h
 exact⟨_,List.append_assoc _ _ _⟩
theorem pre_wd{w:World}{l L1:List Obj}{d:Nat}(h:∃g,L1=l++g):∃g d',Wd w L1 d=Wd w (l++g) d':=let ⟨g,e⟩:=h;⟨g,d,by rw[e]⟩
set_option maxRecDepth 100000 in
set_option maxHeartbeats 4000000 in
theorem taken_any(w:World)(l:List Obj)(d:Nat)(hR:Sm.Roots w)(s:ByteArray)(hs:s.size≤1000000) :
  Calls Tryz.prog 69 #[.string s] (Wd w l d) fun e w'=>e=.returned (.tuple (takV (bys s)))∧∃g d',w'=Wd w (l++g) d':=by
 have hbl:=bys_length s
 by_cases h1:s.size<64
 ·have HV:Hid (takV (bys s)=#[.agg (rcl 0 0 .empty),.bool false]):=Lib.hid (by unfold takV;rw[taken_short (by omega)])
  have h1i:(s.size:Int)<64:=by omega
  go_enter Tryz.func69,Tryz.ntmps69
  go_wp2
  exact ret_mix2 (i:=l.length) (c:=rcl 0 0 .empty) (t:=145) (f:=(0,0)) rfl rfl rfl agj88 (by simp) (rcl_size _ _ _) rfl ⟨by rw[HV.out];rfl,_,_,rfl⟩
 ·have h1i:¬(s.size:Int)<64:=by omega
  have c0:=cut1 s 0 (by omega)
  have c63:=cut1 s 63 (by omega)
  have b0:=gi_bys_lt s 0
  have b63:=gi_bys_lt s 63
  obtain⟨V,hV⟩:∃V,takV (bys s)=V:=⟨_,rfl⟩
  by_cases h2:gi (bys s) 0=76
  ·by_cases h3:gi (bys s) 63=76
   ·rw[h2]at c0
    rw[h3]at c63
    have m0:=mk_eq76
    obtain⟨X1,hX1⟩:∃X,s.extract 1 9=X:=⟨_,rfl⟩
    obtain⟨X2,hX2⟩:∃X,s.extract 13 17=X:=⟨_,rfl⟩
    obtain⟨X3,hX3⟩:∃X,s.extract 9 13=X:=⟨_,rfl⟩
    have s1:X1.size≤8:=by rw[←hX1,ByteArray.size_extract];omega
    have s2:X2.size≤8:=by rw[←hX2,ByteArray.size_extract];omega
    have s3:X3.size≤8:=by rw[←hX3,ByteArray.size_extract];omega
    have v1:=val_cut s 1 8 (by decide)
    have v2:=val_cut s 13 4 (by decide)
    have v3:=val_cut s 9 4 (by decide)
    obtain⟨G,hG⟩:∃G,val (bys X1)=G:=⟨_,rfl⟩
    obtain⟨K,hK⟩:∃K,val (bys X2)=K:=⟨_,rfl⟩
    obtain⟨N,hN⟩:∃N,val (bys X3)=N:=⟨_,rfl⟩
    have eG:val (((bys s).drop 1).take 8)=G:=by rw[←hG,←hX1,bys_extract]
    have eK:val (((bys s).drop 13).take 4)=K:=by rw[←hK,←hX2,bys_extract]
    have eN:val (((bys s).drop 9).take 4)=N:=by rw[←hN,←hX3,bys_extract]
    have HB1:=Lib.hid fun (g':List Obj) (e:Nat)=>big_call (L:=fun g'=>(l++[Obj.cells (rcl 0 0 .empty) 145 (0,0)])++g') (g:=g') (e:=e) (w:=w) (l0:=l++[Obj.cells (rcl 0 0 .empty) 145 (0,0)]) (fun _ _=>List.append_assoc _ _ _) (fun _=>rfl) (number_grows X1 s1 _)
    have HB2:=Lib.hid fun (g':List Obj) (e:Nat)=>big_call (L:=fun g'=>(l++[Obj.cells (rcl 0 0 .empty) 145 (0,0)])++g') (g:=g') (e:=e) (w:=w) (l0:=l++[Obj.cells (rcl 0 0 .empty) 145 (0,0)]) (fun _ _=>List.append_assoc _ _ _) (fun _=>rfl) (number_grows X2 s2 _)
    rw[hG]at HB1
    rw[hK]at HB2
    have HX1:=Lib.hid hX1
    rw[hV]
    clear b0 b63
    go_enter Tryz.func69,Tryz.ntmps69
    go_wp2
    obtain⟨L0,hL0⟩:∃L0,l++[Obj.cells (rcl 0 0 .empty) 145 (0,0)]=L0:=⟨_,rfl⟩
    rw[hL0]at HB1 HB2 ⊢
    refine wp_region_big_all (by kernel_rfl) (by kernel_rfl) ?_
    repeat (go_big_quiet_step ((intro _;first | (with_reducible exact HB1.out _ _) | (with_reducible exact HB2.out _ _))))
    refine wpQuiet_nil ?_
    intro gR eR
    obtain⟨L1,hL1⟩:∃L1,L0++gR=L1:=⟨_,rfl⟩
    have HG1:Hid (L1[l.length]?=some (.cells (rcl 0 0 .empty) 145 (0,0))):=Lib.hid (by rw[←hL1,←hL0];simp)
    have HP1:Hid (∃g,L1=l++g):=Lib.hid ⟨[.cells (rcl 0 0 .empty) 145 (0,0)]++gR,by rw[←hL1,←hL0,List.append_assoc]⟩
    rw[hL1]
    have hg1:=HG1.out
    clear hL1 hL0 HB1 HB2
    have n0:¬((bys s).length<64∨gi (bys s) 0≠76∨gi (bys s) 63≠76):=by omega
    by_cases c1:G<1
    ·have HV:Hid (V=#[.agg (rcl 0 0 .empty),.bool false]):=Lib.hid (by rw[←hV];unfold takV takenL;rw[eG,eK,if_neg n0,if_pos (by omega)])
     have c1i:(G:Int)<1:=by omega
     clear c1 hV
     go_wp2
     exact ret_mix2 (i:=l.length) (c:=rcl 0 0 .empty) (t:=145) (f:=(0,0)) rfl rfl rfl agj88 (set_some HG1.out) (rcl_size _ _ _) rfl ⟨by rw[HV.out];rfl,pre_wd (pre_set HP1.out (Nat.le_refl _))⟩
    have c1i:¬(G:Int)<1:=by omega
    by_cases c2:1099511627776<G
    ·have HV:Hid (V=#[.agg (rcl 0 0 .empty),.bool false]):=Lib.hid (by rw[←hV];unfold takV takenL;rw[eG,eK,if_neg n0,if_pos (by omega)])
     have c2i:(1099511627776:Int)<(G:Int):=by omega
     clear c1 c2 hV
     go_wp2
     exact ret_mix2 (i:=l.length) (c:=rcl 0 0 .empty) (t:=145) (f:=(0,0)) rfl rfl rfl agj88 (set_some HG1.out) (rcl_size _ _ _) rfl ⟨by rw[HV.out];rfl,pre_wd (pre_set HP1.out (Nat.le_refl _))⟩
    have c2i:¬(1099511627776:Int)<(G:Int):=by omega
    by_cases c3:65535<K
    ·have HV:Hid (V=#[.agg (rcl 0 0 .empty),.bool false]):=Lib.hid (by rw[←hV];unfold takV takenL;rw[eG,eK,if_neg n0,if_pos (by omega)])
     have c3i:(65535:Int)<(K:Int):=by omega
     clear c1 c2 c3 hV
     go_wp2
     exact ret_mix2 (i:=l.length) (c:=rcl 0 0 .empty) (t:=145) (f:=(0,0)) rfl rfl rfl agj88 (set_some HG1.out) (rcl_size _ _ _) rfl ⟨by rw[HV.out];rfl,pre_wd (pre_set HP1.out (Nat.le_refl _))⟩
    have c3i:¬(65535:Int)<(K:Int):=by omega
    have n1:¬(G<1∨1099511627776<G∨65535<K):=by omega
    have hsr:=secs_room K
    obtain⟨S,hS⟩:∃S,secs K=S:=⟨_,rfl⟩
    obtain⟨E,hE⟩:∃E,S*64=E:=⟨_,rfl⟩
    rw[hS,hE]at hsr
    have hSE:(S:Int)*64=(E:Int):=by omega
    have hSm:E<K+200:=by rw[←hE,←hS];unfold secs;omega
    have hEb:E≤100000:=by omega
    have hEbi:(E:Int)≤100000:=by omega
    have HSEC:Hid (∀W,Calls Tryz.prog 81 #[.int .i64 (K:Int)] W fun e w'=>e=.returned (.int .i64 (S:Int))∧w'=W):=Lib.hid fun W=>by rw[←hS];exact sectors_any K (by omega) W
    have hKw:IntKind.i64.wrap (K:Int)=(K:Int):=IntWalk.i64_in _ (by omega)
    clear c1 c2 c3
    by_cases c4:s.size<E
    ·have HV:Hid (V=#[.agg (rcl 0 0 .empty),.bool false]):=Lib.hid (by rw[←hV];unfold takV takenL;rw[eG,eK,if_neg n0,if_neg n1,hS,hE,if_pos (by omega)])
     have c4i:(s.size:Int)<(E:Int):=by omega
     clear c4 hV hE hS hsr hSm n0 n1
     go_wp2_with fail
     refine(HSEC.out _).mono ?_
     rintro e w' ⟨rfl,rfl⟩
     go_wp2
     exact ret_mix2 (i:=l.length) (c:=rcl 0 0 .empty) (t:=145) (f:=(0,0)) rfl rfl rfl agj88 (set_some HG1.out) (rcl_size _ _ _) rfl ⟨by rw[HV.out];rfl,pre_wd (pre_set HP1.out (Nat.le_refl _))⟩
    have c4i:¬(s.size:Int)<(E:Int):=by omega
    obtain⟨U1,hU1⟩:∃U,s.extract 0 63=U:=⟨_,rfl⟩
    obtain⟨U2,hU2⟩:∃U,s.extract 64 E=U:=⟨_,rfl⟩
    obtain⟨A,hA⟩:∃A,U1++U2=A:=⟨_,rfl⟩
    have z1:U1.size=63:=by rw[←hU1,ByteArray.size_extract];omega
    have z2:U2.size=E-64:=by rw[←hU2,ByteArray.size_extract];omega
    have zA:A.size=E-1:=by rw[←hA,ByteArray.size_append,z1,z2];have:=secs_pos K;omega
    have hadd:∀W,(Op.stringOp .add U1 U2).run Tryz.prog W=.ok (.string A) W:=fun W=>by rw[run_string_add_sum W _ _ (by omega),hA]
    have eA:bys A=midL (bys s) E:=by
     rw[←hA,bys_append,←hU1,←hU2,bys_extract,bys_extract];rfl
    obtain⟨B,hB⟩:∃B,17+K=B:=⟨_,rfl⟩
    have hBi:(17:Int)+(K:Int)=(B:Int):=by omega
    obtain⟨C,hC⟩:∃C,B+32=C:=⟨_,rfl⟩
    have hBC:(B:Int)+32=(C:Int):=by omega
    have b1:C≤A.size:=by omega
    have hE64:64≤E:=by have:=secs_pos K;omega
    have hE1:(64:Int)≤(E:Int):=by omega
    have hE2:(E:Int)≤(s.size:Int):=by omega
    have b2:C≤100000:=by omega
    have b4:B≤C:=by omega
    have b3:A.size≤1000000:=by omega
    obtain⟨bb,hbb⟩:∃bb,Sm.sameB (A.extract B C) (mkS (Sm.digL (bys (A.extract 0 B))))=bb:=⟨_,rfl⟩
    have eD1:bys (A.extract B C)=((midL (bys s) E).drop B).take 32:=by rw[bys_extract,eA,←hC,Nat.add_sub_cancel_left]
    have eD2:bys (A.extract 0 B)=(midL (bys s) E).take B:=by rw[bys_extract,eA,List.drop_zero,Nat.sub_zero]
    have HVF:Hid (bb=false→V=#[.agg (rcl 0 0 .empty),.bool false]):=Lib.hid fun h=>by
     rw[←hV];unfold takV takenL
     rw[eG,eK,if_neg n0,if_neg n1,hS,hE,if_neg (by omega),hB,if_neg ?_]
     intro hh
     rw[h]at hbb
     unfold Sm.sameB at hbb
     refine of_decide_eq_false hbb ?_
     apply bys_inj
     rw[bys_mkS _ (digB8 _),eD1,eD2]
     exact hh
    have HVT:Hid (bb=true→V=#[.agg (rcl G N (A.extract 17 B)),.bool true]):=Lib.hid fun h=>by
     rw[←hV];unfold takV takenL
     rw[eG,eK,eN,if_neg n0,if_neg n1,hS,hE,if_neg (by omega),hB,if_pos ?_]
     ·have e:A.extract 17 B=mkS (((midL (bys s) E).drop 17).take K):=by
       apply bys_inj
       rw[bys_extract,eA,bys_mkS _ (((by rw[←eA];exact B8.bys _:B8 (midL (bys s) E)).drop _).take _),←hB,Nat.add_sub_cancel_left]
      rw[e];rfl
     ·rw[h]at hbb
      unfold Sm.sameB at hbb
      have h2:=congrArg bys (of_decide_eq_true hbb)
      rw[bys_mkS _ (digB8 _),eD1,eD2]at h2
      exact h2
    have HR:=Lib.hid hR
    have h17:(17:Nat)≤B:=by omega
    have h17i:(17:Int)≤(B:Int):=by omega
    have hBA:(B:Int)≤(A.size:Int):=by omega
    have c9:(13:Int)≤(s.size:Int):=by omega
    have c10:(63:Int)≤(s.size:Int):=by omega
    have c11:63≤s.size:=by omega
    have c12:E≤s.size:=by omega
    have HB3:=Lib.hid (number_grows X3 s3)
    rw[hN]at HB3
    clear c4 hV hE hS hsr hSm n0 n1 hR hA z1 eA eD1 eD2 hB eG eK eN hC
    go_wp2_with fail
    refine(HSEC.out _).mono ?_
    rintro e w' ⟨rfl,rfl⟩
    go_wp2
    refine wp_region_read (by kernel_rfl) (by kernel_rfl) ?_
    repeat still_step
    refine wpStill_nil ?_
    go_wp2
    refine wp_region_fine (TL [eqv (.string A),eqv (.int .i64 (B:Int)),eqv (.int .i64 (B:Int)),eqv (.int .i64 (C:Int)),eqv (.string (A.extract B C)),eqv (.string A),eqv (.int .i64 (B:Int)),eqv (.string (A.extract 0 B)),lit1 (.string (A.extract 0 B)) 9,eqv (.string (mkS (Sm.digL (bys (A.extract 0 B))))),eqv (.bool bb),eqv (.bool (!bb))]) (by kernel_rfl) (by kernel_rfl) (TL_last (List.forall_mem_cons.2 ⟨eqv_last _,List.forall_mem_cons.2 ⟨eqv_last _,List.forall_mem_cons.2 ⟨eqv_last _,List.forall_mem_cons.2 ⟨eqv_last _,List.forall_mem_cons.2 ⟨eqv_last _,List.forall_mem_cons.2 ⟨eqv_last _,List.forall_mem_cons.2 ⟨eqv_last _,List.forall_mem_cons.2 ⟨eqv_last _,List.forall_mem_cons.2 ⟨lit1_last _ _,List.forall_mem_cons.2 ⟨eqv_last _,List.forall_mem_cons.2 ⟨eqv_last _,List.forall_mem_cons.2 ⟨eqv_last _,fun _ h=>(List.not_mem_nil h).elim⟩⟩⟩⟩⟩⟩⟩⟩⟩⟩⟩⟩)) (TL_no_guard (by kernel_rfl)) ?_ ?_
    ·intro i o ho a W hB hdep hfix
     match i,ho with
     |0,ho =>
      obtain rfl:=Option.some.inj ho
      exact lays_eq _ rfl (exec_move (hfix 7 (by decide +kernel)))
     |1,ho =>
      obtain rfl:=Option.some.inj ho
      exact lays_eq _ rfl (exec_move (hfix 8 (by decide +kernel)))
     |2,ho =>
      obtain rfl:=Option.some.inj ho
      exact lays_eq _ rfl (exec_move (hfix 8 (by decide +kernel)))
     |3,ho =>
      obtain rfl:=Option.some.inj ho
      have e1:a.tmps.getD 60 undef=.int .i64 (B:Int):=hdep 2 _ 60 rfl rfl (by decide +kernel)
      exact lays_eq _ rfl (exec_add e1 rfl hBC (by omega))
     |4,ho =>
      obtain rfl:=Option.some.inj ho
      have e1:a.tmps.getD 58 undef=.string A:=hdep 0 _ 58 rfl rfl (by decide +kernel)
      have e2:a.tmps.getD 59 undef=.int .i64 (B:Int):=hdep 1 _ 59 rfl rfl (by decide +kernel)
      have e3:a.tmps.getD 61 undef=.int .i64 (C:Int):=hdep 3 _ 61 rfl rfl (by decide +kernel)
      exact lays_eq _ rfl (exec_cut e1 e2 e3 b4 b1)
     |5,ho =>
      obtain rfl:=Option.some.inj ho
      exact lays_eq _ rfl (exec_move (hfix 7 (by decide +kernel)))
     |6,ho =>
      obtain rfl:=Option.some.inj ho
      exact lays_eq _ rfl (exec_move (hfix 8 (by decide +kernel)))
     |7,ho =>
      obtain rfl:=Option.some.inj ho
      have e1:a.tmps.getD 63 undef=.string A:=hdep 5 _ 63 rfl rfl (by decide +kernel)
      have e3:a.tmps.getD 64 undef=.int .i64 (B:Int):=hdep 6 _ 64 rfl rfl (by decide +kernel)
      exact lays_eq _ rfl (exec_head e1 e3 (by omega))
     |8,ho =>
      obtain rfl:=Option.some.inj ho
      have e1:a.tmps.getD 65 undef=.string (A.extract 0 B):=hdep 7 _ 65 rfl rfl (by decide +kernel)
      exact lays_bs (fun w l d=>bsj32s _ w l d) e1 (fun _ _ h=>h)
     |9,ho =>
      obtain rfl:=Option.some.inj ho
      have e1:lit1 (.string (A.extract 0 B)) 9 (a.tmps.getD 66 undef) W:=hdep 8 _ 66 rfl rfl (by decide +kernel)
      obtain⟨b,e2,e3⟩:=e1
      exact lays_call #[.slice (some ⟨b,0,none⟩) 1 1] (by simp[Act.eval,e2]) (by kernel_rfl) ((of_blk (roots_below (HR.out.wd _ _) hB) e3 (by rw[ByteArray.size_extract];omega)).mono fun e W' ⟨he,hg⟩=>⟨_,he,hg.below,rfl⟩)
     |10,ho =>
      obtain rfl:=Option.some.inj ho
      have e1:a.tmps.getD 62 undef=.string (A.extract B C):=hdep 4 _ 62 rfl rfl (by decide +kernel)
      have e2:a.tmps.getD 67 undef=.string (mkS (Sm.digL (bys (A.extract 0 B)))):=hdep 9 _ 67 rfl rfl (by decide +kernel)
      exact lays_call #[.string (A.extract B C),.string (mkS (Sm.digL (bys (A.extract 0 B))))] (by simp[Act.eval,e1,e2]) (by kernel_rfl) ((Sm.equal_any _ _ (by rw[ByteArray.size_extract];omega) W).mono fun e W' ⟨he,hg⟩=>⟨_,he,hg.below,by rw[hbb];rfl⟩)
     |11,ho =>
      obtain rfl:=Option.some.inj ho
      have e1:a.tmps.getD 68 undef=.bool bb:=hdep 10 _ 68 rfl rfl (by decide +kernel)
      exact lays_eq _ rfl (exec_not e1)
     |i+12,ho=>simp at ho
    ·intro a W hB hd hsz hfix hT
     have f0:a.tmps.getD 0 undef=.string s:=hfix 0 (by decide +kernel)
     have f2:a.tmps.getD 2 undef=.pointer (some ⟨w.heap.size+l.length,0,none⟩):=hfix 2 (by decide +kernel)
     have f3:a.tmps.getD 3 undef=.bool false:=hfix 3 (by decide +kernel)
     have f4:a.tmps.getD 4 undef=.int .u64 (G:Int):=hfix 4 (by decide +kernel)
     have f5:a.tmps.getD 5 undef=.int .u64 (K:Int):=hfix 5 (by decide +kernel)
     have f7:a.tmps.getD 7 undef=.string A:=hfix 7 (by decide +kernel)
     have f8:a.tmps.getD 8 undef=.int .i64 (B:Int):=hfix 8 (by decide +kernel)
     have f69:a.tmps.getD 69 undef=.bool (!bb):=hT 11 _ 69 rfl rfl
     rw[frame_lit a 79 hsz hd]
     clear hfix hT hsz hd
     simp only[List.range,List.range.loop,List.map]
     generalize a.tmps=t at *
     simp only[f0,f2,f3,f4,f5,f7,f8,f69]
     clear f0 f2 f3 f4 f5 f7 f8 f69
     obtain⟨gS,dS,rfl⟩:=below_grows hB
     obtain⟨L2,hL2⟩:∃L2,L1++gS=L2:=⟨_,rfl⟩
     have HG2:Hid (L2[l.length]?=some (.cells (rcl 0 0 .empty) 145 (0,0))):=Lib.hid (by rw[←hL2];exact app_some HG1.out)
     have HP2:Hid (∃g,L2=l++g):=Lib.hid (by rw[←hL2];exact pre_app HP1.out _)
     rw[hL2]
     have hg2:=HG2.out
     clear hL2 hB hg1
     cases bb with
     |false =>
      have HV:=Lib.hid (HVF.out rfl)
      clear HVF HVT
      go_wp2
      exact ret_mix2 (i:=l.length) (c:=rcl 0 0 .empty) (t:=145) (f:=(0,0)) rfl rfl rfl agj88 (set_some HG2.out) (rcl_size _ _ _) rfl ⟨by rw[HV.out];rfl,pre_wd (pre_set HP2.out (Nat.le_refl _))⟩
     |true =>
      have HV:=Lib.hid (HVT.out rfl)
      clear HVF HVT
      have HB4:=Lib.hid fun (g':List Obj) (e:Nat)=>big_call (L:=fun g'=>L2++g') (g:=g') (e:=e) (w:=w) (l0:=L2) (fun _ _=>List.append_assoc _ _ _) (fun _=>rfl) (HB3.out _)
      go_wp2
      refine wp_region_big 8 (by kernel_rfl) (by kernel_rfl) ?_
      simp only[List.take_succ_cons,List.take_zero,List.drop_succ_cons,List.drop_zero]
      repeat (go_big_quiet_step ((intro _;with_reducible exact HB4.out _ _)))
      refine wpQuiet_nil ?_
      intro gT eT
      obtain⟨L3,hL3⟩:∃L3,L2++gT=L3:=⟨_,rfl⟩
      have HG3:Hid (L3[l.length]?=some (.cells (rcl 0 0 .empty) 145 (0,0))):=Lib.hid (by rw[←hL3];exact app_some HG2.out)
      have HP3:Hid (∃g,L3=l++g):=Lib.hid (by rw[←hL3];exact pre_app HP2.out _)
      rw[hL3]
      have hg3:=HG3.out
      clear hL3 hg2 HB4 HB3
      go_wp2
      exact ret_mix2 (i:=l.length) (c:=rcl G N (A.extract 17 B)) (t:=145) (f:=(0,0)) rfl rfl rfl agj88 (set_some HG3.out) (rcl_size _ _ _) rfl ⟨by rw[HV.out];rfl,pre_wd (pre_set HP3.out (Nat.le_refl _))⟩
   ·have HV:Hid (V=#[.agg (rcl 0 0 .empty),.bool false]):=Lib.hid (by rw[←hV];unfold takV takenL;rw[if_pos (by omega)])
    rw[h2]at c0
    have m0:=mk_eq76
    have m63:=mk_ne76 h3 b63
    obtain⟨y,hy⟩:∃y,mkS [gi (bys s) 63]=y:=⟨_,rfl⟩
    rw[hy]at c63 m63
    rw[hV]
    clear hV
    go_enter Tryz.func69,Tryz.ntmps69
    go_wp2
    exact ret_mix2 (i:=l.length) (c:=rcl 0 0 .empty) (t:=145) (f:=(0,0)) rfl rfl rfl agj88 (by simp) (rcl_size _ _ _) rfl ⟨by rw[HV.out];rfl,_,_,rfl⟩
  ·have HV:Hid (V=#[.agg (rcl 0 0 .empty),.bool false]):=Lib.hid (by rw[←hV];unfold takV;rw[taken_empty h2])
   have m0:=mk_ne76 h2 b0
   obtain⟨y,hy⟩:∃y,mkS [gi (bys s) 0]=y:=⟨_,rfl⟩
   rw[hy]at c0 m0
   rw[hV]
   clear hV
   go_enter Tryz.func69,Tryz.ntmps69
   go_wp2
   exact ret_mix2 (i:=l.length) (c:=rcl 0 0 .empty) (t:=145) (f:=(0,0)) rfl rfl rfl agj88 (by simp) (rcl_size _ _ _) rfl ⟨by rw[HV.out];rfl,_,_,rfl⟩
end Go.Proofs.YtlogjpmdfimgdaaGreatDoor.Jf
namespace Go.Proofs.YtlogjpmdfimgdaaGreatDoor.Jf
open Go Go.RowKit Go.Own.Jf Go.Own.Fr
attribute [-go_sem] Sm.execOp_bs run_string_add_if
attribute [local go_sem] agj61 csj61 szj61 agj25 isaj25 csj25 szj25 agj32 isaj32 csj32 szj32 agj38 isaj38 csj38 szj38 agj54 isaj54 csj54 szj54 agj9 isaj9 csj9 szj9 zj61 zj100 alXA ldH0 ldH1 ldH2 ldH3 ldH4 ldH5 ldHA
def rdL(M:Dk)(a k:Nat):List Nat:=(List.range k).flatMap fun i=>(M.read ((a+i:Nat):Int)).1
theorem rdL_succ(M:Dk)(a k:Nat):rdL M a (k+1)=rdL M a k++(M.read ((a+k:Nat):Int)).1:=by simp[rdL,List.range_succ]
theorem read_le(M:Dk)(x:Int):(M.read x).1.length≤64:=by
 unfold Dk.read
 split
 ·unfold sec;rw[List.length_take];omega
 ·exact Nat.zero_le _
theorem read_B8(M:Dk)(hM:M.Ok)(x:Int):B8 (M.read x).1:=by
 unfold Dk.read
 split
 ·exact sec_B8 hM.seenB _
 ·exact fun y hy=>by simp at hy
theorem rdL_le(M:Dk)(a:Nat):∀k,(rdL M a k).length≤k*64
 |0=>by simp[rdL]
 |k+1=>by
  have h1:=rdL_le M a k
  have h2:=read_le M ((a+k:Nat):Int)
  rw[rdL_succ,List.length_append];omega
theorem rdL_B8(M:Dk)(hM:M.Ok)(a k:Nat):B8 (rdL M a k):=B8.flat fun _ _=>read_B8 M hM _
set_option maxRecDepth 100000 in
set_option maxHeartbeats 2000000 in
theorem rdH_any(w:World)(l:List Obj)(d i s q:Nat)(vw:Value)(O:Nat→Prop)(M:Dk)(h:DAt w l i s q vw O M)(a n g u:Nat)(vt:Value)(hn:n≤4096)(ha:a≤4096) :
  Calls Tryz.prog 68 #[.agg (hcl (.pointer (some ⟨w.heap.size+i,0,none⟩)) a n g vt u)] (Wd w l d) fun e w'=>e=.returned (.string (mkS (rdL M a n)))∧∃g d',w'=Wd w (l++g) d':=by
 obtain⟨l1,hl1⟩:∃l1,l++[Obj.cells (hcl (.pointer (some ⟨w.heap.size+i,0,none⟩)) a n g vt u) 107 (0,0)]=l1:=⟨_,rfl⟩
 have HD:Hid (∀g',DAt w (l1++g') i s q vw O M):=Lib.hid fun g'=>by rw[←hl1,List.append_assoc];exact h.app _
 have HG:Hid (∀g',(l1++g')[l.length]?=some (.cells (hcl (.pointer (some ⟨w.heap.size+i,0,none⟩)) a n g vt u) 107 (0,0))):=Lib.hid fun g'=>by rw[←hl1];simp
 have HP:Hid (∃g',l1=l++g'):=Lib.hid ⟨_,hl1.symm⟩
 have HOK:=Lib.hid h.ok
 obtain⟨b,hb⟩:∃b,l1.length=b:=⟨_,rfl⟩
 have HN:=Lib.hid (bu_new w l1)
 have HW:Hid (∀W bs (y:ByteArray),Bu w l1 W bs→bs.length+y.size≤1099511627776→Calls Tryz.prog 96 #[.pointer (some ⟨w.heap.size+b,0,none⟩),.string y] W fun e w'=>e=.returned (.tuple #[.int .i64 y.size,.nilIface])∧Bu w l1 w' (bs++bys y)):=Lib.hid fun W bs y h1 h2=>by rw[←hb];exact bu_write h1 y h2
 have HS:Hid (∀W bs,Bu w l1 W bs→B8 bs→Calls Tryz.prog 97 #[.pointer (some ⟨w.heap.size+b,0,none⟩)] W fun e w'=>e=.returned (.string (mkS bs))∧∃g d,w'=Wd w (l1++g) d):=Lib.hid fun W bs h1 h2=>by rw[←hb];exact bu_string h1 h2
 have hl:=hl1
 clear h
 have hg0:=HG.out
 have HLE:=Lib.hid (rdL_le M a)
 have HB8:=Lib.hid (rdL_B8 M HOK.out a)
 have HSU:=Lib.hid (rdL_succ M a)
 go_enter Tryz.func68,Tryz.ntmps68
 go_wp2
 go_loopw [4,5,6,9] (fun _ _ _ k wr=>∃kk:Nat,kk≤n∧k=.int .i64 kk∧Hid (Bu w l1 wr (rdL M a kk))) (fun _ _ _ k _=>n-(intOf k).toNat)
 case atStart=>exact⟨0,by omega,rfl,Lib.hid (HN.out _)⟩
 case round =>
  obtain⟨kk,hk,rfl,hB⟩:=hrel
  obtain⟨⟨gk,dk,rfl⟩,hib⟩:=hB.out
  have HBU:=hB
  clear hib hB
  by_cases hlt:kk<n
  ·have hki:(kk:Int)<n:=by omega
   obtain⟨z,hz⟩:∃z,a+kk=z:=⟨_,rfl⟩
   have hzi:(a:Int)+(kk:Int)=(z:Int):=by omega
   have HZ:=Lib.hid hz
   clear hz
   go_wp2_with fail
   refine(read_any w _ _ i s q vw O M (z:Int) (HD.out _)).mono ?_
   rintro e w' ⟨rfl,rfl⟩
   obtain⟨y,hy⟩:∃y,mkS (M.read (z:Int)).1=y:=⟨_,rfl⟩
   have hyb:bys y=(M.read (z:Int)).1:=by rw[←hy,bys_mkS _ (read_B8 M HOK.out _)]
   have hyl:y.size≤64:=by rw[←bys_length,hyb];exact read_le M _
   rw[hy]
   have HYB:=Lib.hid hyb
   obtain⟨ec,hec⟩:∃ec,(M.read (z:Int)).2=ec:=⟨_,rfl⟩
   rw[hec]
   clear hy hyb hec
   go_wp2_with fail
   refine(HW.out _ _ y HBU.out (by have:=HLE.out kk;omega)).mono ?_
   rintro e w' ⟨rfl,hB2⟩
   have HB2:Hid (Bu w l1 w' (rdL M a (kk+1))):=Lib.hid (by rw[HSU.out,HZ.out,←HYB.out];exact hB2)
   obtain⟨⟨g2,d2,rfl⟩,hib⟩:=hB2
   clear hib
   go_wp2
   go_roundw
   case rel=>exact⟨kk+1,by omega,by go_num,HB2⟩
   case measure=>simp[intOf];omega
  ·obtain rfl:kk=n:=by omega
   go_wp2_with fail
   refine(HS.out _ _ HBU.out (HB8.out kk)).mono ?_
   rintro e w' ⟨rfl,g2,d2,rfl⟩
   go_wp2
   go_ret
   refine⟨rfl,?_⟩
   obtain⟨g',e⟩:=HP.out
   exact⟨g'++g2,d2,by rw[←List.append_assoc,←e]⟩
end Go.Proofs.YtlogjpmdfimgdaaGreatDoor.Jf

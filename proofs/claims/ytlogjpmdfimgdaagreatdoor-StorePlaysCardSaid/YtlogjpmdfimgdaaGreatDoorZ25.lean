/- A journal in memory; its room; a text more: by contract. No condition but the sizes. | A text more, all ways: by contract. No condition but that the disk counts little. | What lays a row of texts, plainly: one text more; how long. A literal row of two steps, one of three rows. No condition. | A disk whose power is on: steps done, plainly; what lies in a half behind them. No condition. | What lies on a disk behind what lays records, and what empties a sector; what a half tells, as a chain. No condition. -/
import Derived.Test.YtlogjpmdfimgdaaGreatDoorZ24
namespace Go.Proofs.YtlogjpmdfimgdaaGreatDoor.Jf
open Go Go.RowKit Go.Own.Jf Go.Own.Fr
structure Jn.Ok(J:Jn):Prop where
 first:J.now.first≤4096
 size:J.now.size≤4096
 used:J.now.used≤J.now.size
 texts:J.now.texts.length≤J.now.used
 gen:J.now.gen≤1099511627776
theorem down_length(h:Hf)(y:List Nat):∀c,(h.down y c).length=c+2
 |0=>rfl
 |c+1=>by
  show (_ :: h.down y c).length=_
  rw[List.length_cons,down_length h y c]
theorem laying_length(h:Hf)(t:List Nat)(ht:t.length≤65535):(h.laying t).length≤1030:=by
 unfold Hf.laying
 rw[List.length_append,down_length,laid_length,List.length_singleton]
 omega
theorem ending_length(h:Hf):h.ending.length≤1:=by unfold Hf.ending;split <;> simp
structure JAt(w:World)(l:List Obj)(jo i:Nat)(A:Nat→Prop)(J:Jn)(vt:Value):Prop where
 cells:l[jo]?=some (.cells (jcl (.pointer (some ⟨w.heap.size+i,0,none⟩)) J.now.first J.now.size J.now.gen vt J.now.used J.off) 110 (0,0))
 row:RowV A w l 1 J.now.texts.length vt (strs J.now.texts)
 jA:¬A jo
 ok:J.Ok
attribute [-go_sem] Sm.execOp_bs run_string_add_if
attribute [local go_sem] agj61 csj61 szj61 agj64 csj64 szj64 agj25 isaj25 csj25 szj25 agj9 isaj9 csj9 szj9 agj38 isaj38 csj38 szj38 ldJA ldJ6 sz4 isa4 ag4 zj61 alXA ldH3 ldHA stH3 stHAp
set_option maxRecDepth 100000 in
theorem jroom_any(w:World)(l:List Obj)(d jo i:Nat)(A:Nat→Prop)(J:Jn)(vt:Value)(h:JAt w l jo i A J vt) :
  Calls Tryz.prog 56 #[.pointer (some ⟨w.heap.size+jo,0,none⟩)] (Wd w l d) fun e w'=>e=.returned (.int .i64 J.now.room)∧∃g' d',w'=Wd w (l++g') d':=by
 have hj:=h.cells
 have HR:=Lib.hid fun W=>room_any (.pointer (some ⟨w.heap.size+i,0,none⟩)) vt J.now.first J.now.size J.now.gen J.now.used (by have:=h.ok.size;omega) (by have:=h.ok.size;have:=h.ok.used;omega) W
 clear h
 go_enter Tryz.func56,Tryz.ntmps56
 go_wp2_with fail
 refine(HR.out _).mono ?_
 rintro e w' ⟨rfl,g',d',rfl⟩
 rw[Wd_wd]
 go_wp2
 go_ret
 exact⟨rfl,_,_,rfl⟩
def AppQ(w:World)(l:List Obj)(jo i sd q:Nat)(O A:Nat→Prop)(r:Jn×Dk×Nat)(e:Ending)(w':World):Prop :=
 ∃l' d' vw' vt' O',e=.returned (.int .i64 ((r.2.2:Nat):Int))∧w'=Wd w l' d'∧DAt w l' i sd q vw' O' r.2.1∧JAt w l' jo i (fun p=>A p∨(l.length≤p∧O' p)) r.1 vt'∧l.length≤l'.length∧(∀p,O p→p≠jo→¬A p→l'[p]?=l[p]?)∧(∀p,O p→O' p)∧∀p,O' p→p<l'.length
set_option maxRecDepth 100000 in
set_option maxHeartbeats 8000000 in
theorem append_on(w:World)(hR:Sm.Roots w)(l:List Obj)(d jo i sd q:Nat)(vw:Value)(O A:Nat→Prop)(J:Jn)(vt:Value)(M:Dk)(h:JAt w l jo i A J vt)(hD:DAt w l i sd q vw O M)(hO:∀p,O p→p<l.length)(hjO:O jo)(hAO:∀p,A p→O p)(t:ByteArray)(ht:(t.size:Int)≤J.now.room)(hoff:J.off=false)(hc:M.count<1000000000000) :
  Calls Tryz.prog 34 #[.pointer (some ⟨w.heap.size+jo,0,none⟩),.string t] (Wd w l d) fun e w'=>AppQ w l jo i sd q O A (J.append M (bys t)) e w':=by
 obtain⟨now,off⟩:=J
 obtain⟨fi,n,g,u,ts⟩:=now
 obtain rfl:off=false:=hoff
 have hj:=h.cells
 have hok:=h.ok
 obtain⟨tq,tc,rfl⟩:=h.row.form
 have HJR:=Lib.hid fun d=>jroom_any w l d jo i A _ _ h
 have ht2:t.size≤65535:=by
  have h2:(t.size:Int)≤min 65535 (((n:Int)-u)*64-50):=ht
  omega
 have hfit:u+secs t.size≤n:=by
  have h2:(t.size:Int)≤min 65535 (((n:Int)-u)*64-50):=ht
  unfold secs;omega
 obtain⟨rm,hrm⟩:∃rm,(⟨fi,n,g,u,ts⟩:Hf).room=rm:=⟨_,rfl⟩
 have hroom:(t.size:Int)≤(⟨fi,n,g,u,ts⟩:Hf).room:=ht
 have ht':¬(rm<(t.size:Int)):=by
  have:(t.size:Int)≤(⟨fi,n,g,u,ts⟩:Hf).room:=ht
  omega
 have HJR2:Hid (∀d,Calls Tryz.prog 56 #[.pointer (some ⟨w.heap.size+jo,0,none⟩)] (Wd w l d) fun e w'=>e=.returned (.int .i64 rm)∧∃g' d',w'=Wd w (l++g') d'):=Lib.hid (by rw[←hrm];exact HJR.out)
 simp only at hj
 have hfi:fi≤4096:=hok.first
 have hn:n≤4096:=hok.size
 have hu:u≤n:=hok.used
 have hts:ts.length≤u:=hok.texts
 have hrow:RowV A w l 1 ts.length (.slice tq ts.length tc) (strs ts):=h.row
 obtain⟨G,hG⟩:∃G,max g 1=G:=⟨_,rfl⟩
 have hGi:max (g:Int) 1=(G:Int):=by omega
 have HGE:=Lib.hid hG
 have HROW:=Lib.hid hrow
 have HD:=Lib.hid hD
 have HO:=Lib.hid hO
 have HAO:=Lib.hid hAO
 have HJO:=Lib.hid hjO
 have HH:=Lib.hid h
 have HJ:=Lib.hid hj
 have HROOM:=Lib.hid hroom
 have hgen:g≤1099511627776:=hok.gen
 clear HJR hrm hroom hG hrow hD hO hAO hjO h hok
 go_enter Tryz.func34,Tryz.ntmps34
 go_wp2_with fail
 refine(HJR2.out _).mono ?_
 rintro e w' ⟨rfl,g1,d1,rfl⟩
 have hj0:(l++g1)[jo]?=some (.cells (jcl (.pointer (some ⟨w.heap.size+i,0,none⟩)) fi n g (.slice tq ts.length tc) u false) 110 (0,0)):=app_some HJ.out
 have hs0:∀p,p<l.length→(l++g1)[p]?=l[p]?:=fun p hp=>List.getElem?_append_left hp
 have hl0:l.length≤(l++g1).length:=by rw[List.length_append];omega
 obtain⟨L0,hL0⟩:∃L0,l++g1=L0:=⟨_,rfl⟩
 rw[hL0]at hj0 hs0 hl0 ⊢
 have HS0:=Lib.hid hs0
 have HL0:=Lib.hid hl0
 clear hs0 hl0 hL0 hj HJR2
 go_wp2_with fail
 refine(with_any w (L0++[Obj.cells (hcl (.pointer (some ⟨w.heap.size+i,0,none⟩)) fi n G (.slice tq ts.length tc) u) 107 (0,0)]) d1 _ tq fi n G u ts.length tc ts (fun p=>A p∨l.length≤p) (fun p hp=>.inr (by rw[List.length_append]at hp;have:=HL0.out;omega)) (HROW.out.mono fun p hp hlt=>⟨.inl hp,by rw[List.getElem?_append_left (by have:=HL0.out;omega)];exact HS0.out p hlt⟩) t (by omega) (by omega) (by omega)).mono ?_
 rintro e w' ⟨vx,L1,d2,rfl,rfl,hr1,hl1,hs1⟩
 obtain⟨xq,xc,rfl⟩:=hr1.form
 obtain⟨U,hU⟩:∃U,u+secs t.size=U:=⟨_,rfl⟩
 rw[hU]at hfit ⊢
 have HU:=Lib.hid hU
 have HR1:=Lib.hid hr1
 have hb5:L1[L0.length]?=some (Obj.cells (hcl (.pointer (some ⟨w.heap.size+i,0,none⟩)) fi n G (.slice tq ts.length tc) u) 107 (0,0)):=by
  rw[hs1 _ (by rw[List.length_append,List.length_singleton];omega) (HROW.out.beyond HL0.out)];simp
 have hk1:∀p,p<l.length→NotAt w (.slice tq ts.length tc) p→L1[p]?=l[p]?:=fun p hp hn=>by
  rw[hs1 p (by rw[List.length_append];have:=HL0.out;omega) hn,List.getElem?_append_left (by have:=HL0.out;omega)];exact HS0.out p hp
 have hl10:L0.length+1≤L1.length:=by rw[List.length_append,List.length_singleton]at hl1;exact hl1
 have HB5':=Lib.hid hb5
 have HK1:=Lib.hid hk1
 have HL10:=Lib.hid hl10
 clear hr1 hs1 hl1 hb5 hk1 hU hl10 hj0
 go_wp2_with fail
 obtain⟨L2,hL2⟩:∃L2,L1++[Obj.cells (hcl (.pointer (some ⟨w.heap.size+i,0,none⟩)) fi n G (.slice xq (ts.length+1) xc) U) 107 (0,0)]=L2:=⟨_,rfl⟩
 have HB5:Hid (blk (Wd w L2 d2) (w.heap.size+L0.length)=some (Obj.cells (hcl (.pointer (some ⟨w.heap.size+i,0,none⟩)) fi n G (.slice tq ts.length tc) u) 107 (0,0))):=Lib.hid (by rw[blk_at,←hL2];exact app_some HB5'.out)
 have HB6:Hid (blk (Wd w L2 d2) (w.heap.size+L1.length)=some (Obj.cells (hcl (.pointer (some ⟨w.heap.size+i,0,none⟩)) fi n G (.slice xq (ts.length+1) xc) U) 107 (0,0))):=Lib.hid (by rw[blk_at,←hL2];simp)
 have HL2:Hid (L2.length=L1.length+1∧∀p,p<L1.length→L2[p]?=L1[p]?):=Lib.hid (by rw[←hL2];exact⟨by simp,fun p hp=>List.getElem?_append_left hp⟩)
 rw[hL2]
 obtain⟨E1,hE1⟩:∃E1,(⟨fi,n,G,U,ts++[bys t]⟩:Hf).ending=E1:=⟨_,rfl⟩
 obtain⟨E2,hE2⟩:∃E2,(⟨fi,n,G,u,ts⟩:Hf).laying (bys t)=E2:=⟨_,rfl⟩
 have HEN:Hid (∀L d,L2.length≤L.length→Calls Tryz.prog 60 #[.agg (hcl (.pointer (some ⟨w.heap.size+i,0,none⟩)) fi n G (.slice xq (ts.length+1) xc) U)] (Wd w L d) fun e W'=>∃v',e=.returned v'∧Below (Wd w L d).heap.size (Wd w L d) W'∧srB w L2.length i E1 v' W'):=Lib.hid fun L d hl=>hE1▸ending_sr w _ L d rfl L2.length i fi n G U hl _ hfit (by omega) (by omega) (ts++[bys t])
 have HLA:Hid (∀L d,L2.length≤L.length→Calls Tryz.prog 61 #[.agg (hcl (.pointer (some ⟨w.heap.size+i,0,none⟩)) fi n G (.slice tq ts.length tc) u),.string t] (Wd w L d) fun e W'=>∃v',e=.returned v'∧Below (Wd w L d).heap.size (Wd w L d) W'∧srB w L2.length i E2 v' W'):=Lib.hid fun L d hl=>hE2▸laying_sr w hR _ L d rfl L2.length i fi n G u tc hl tq ts t ht2 (by omega) (by omega) (by omega)
 have HEL:Hid (([E1,E2]:List (List Stp)).flatten.length≤500000):=Lib.hid (by
  have h1:=ending_length (⟨fi,n,G,U,ts++[bys t]⟩:Hf)
  have h2:=laying_length (⟨fi,n,G,u,ts⟩:Hf) (bys t) (by rw[bys_length];exact ht2)
  rw[hE1]at h1
  rw[hE2]at h2
  simp only[List.flatten_cons,List.flatten_nil,List.length_append,List.append_nil]
  omega)
 have HNE:Hid (¬([E1,E2]:List (List Stp)).flatten.length=0):=Lib.hid (by
  rw[←hE2];simp[Hf.laying])
 have HE1:=Lib.hid hE1
 have HAP:Hid ((⟨⟨fi,n,g,u,ts⟩,false⟩:Jn).append M (bys t)=(⟨⟨fi,n,g,u,ts⟩,false⟩:Jn).turn M ⟨fi,n,G,U,ts++[bys t]⟩ ([E1,E2]:List (List Stp)).flatten):=Lib.hid (by
  have hrm:¬(⟨fi,n,g,u,ts⟩:Hf).room<((bys t).length:Int):=by rw[bys_length];have:=HROOM.out;omega
  unfold Jn.append
  rw[if_neg (by simp),if_neg hrm,←hE1,←hE2,←HGE.out,←HU.out,←bys_length]
  simp[Hf.with])
 have HJN:Hid (NotAt w (.slice tq ts.length tc) jo):=Lib.hid (rowV_off HROW.out HH.out.jA)
 have hsb:1≤secs t.size:=secs_pos _
 have HOK:Hid ((⟨⟨fi,n,G,U,ts++[bys t]⟩,false⟩:Jn).Ok∧(⟨⟨0,n,0,0,[]⟩,true⟩:Jn).Ok):=Lib.hid ⟨⟨hfi,hn,hfit,by show (ts++[bys t]).length≤U;rw[List.length_append,List.length_singleton];have:=HU.out;omega,by show G≤_;have:=HGE.out;omega⟩,⟨Nat.zero_le _,hn,Nat.zero_le _,Nat.le_refl _,Nat.zero_le _⟩⟩
 have HE2:=Lib.hid hE2
 clear hE1 hE2 hL2 HB5'
 refine wp_region_fine_drop 9 (TL [eqv (.pointer (some ⟨w.heap.size+jo,0,none⟩)),eqv (.agg (hcl (.pointer (some ⟨w.heap.size+i,0,none⟩)) fi n G (.slice xq (ts.length+1) xc) U)),eqv (.agg (hcl (.pointer (some ⟨w.heap.size+i,0,none⟩)) fi n G (.slice xq (ts.length+1) xc) U)),srB w L2.length i E1,eqv (.agg (hcl (.pointer (some ⟨w.heap.size+i,0,none⟩)) fi n G (.slice tq ts.length tc) u)),eqv (.string t),srB w L2.length i E2,rrB w L2.length i [E1,E2],srB w L2.length i ([E1,E2]:List (List Stp)).flatten]) (by kernel_rfl) (by kernel_rfl) (by kernel_rfl) (by kernel_rfl) (TL_last (List.forall_mem_cons.2 ⟨eqv_last _,List.forall_mem_cons.2 ⟨eqv_last _,List.forall_mem_cons.2 ⟨eqv_last _,List.forall_mem_cons.2 ⟨srB_last _ _ _ _,List.forall_mem_cons.2 ⟨eqv_last _,List.forall_mem_cons.2 ⟨eqv_last _,List.forall_mem_cons.2 ⟨srB_last _ _ _ _,List.forall_mem_cons.2 ⟨rrB_last _ _ _ _,List.forall_mem_cons.2 ⟨srB_last _ _ _ _,fun _ h=>(List.not_mem_nil h).elim⟩⟩⟩⟩⟩⟩⟩⟩⟩)) (TL_no_guard (by kernel_rfl)) ?_ ?_
 ·intro ix o ho a W hB hdep hfix
  simp only[List.take_succ_cons,List.take_zero]at ho hdep hfix
  match ix,ho with
  |0,ho =>
   obtain rfl:=Option.some.inj ho
   exact lays_eq _ rfl (exec_move (hfix 0 (by decide +kernel)))
  |1,ho =>
   obtain rfl:=Option.some.inj ho
   exact lays_eq _ rfl (exec_load (hfix 6 (by decide +kernel)) (ldHA agj61 (blk_below hB HB6.out)))
  |2,ho =>
   obtain rfl:=Option.some.inj ho
   exact lays_eq _ rfl (exec_load (hfix 6 (by decide +kernel)) (ldHA agj61 (blk_below hB HB6.out)))
  |3,ho =>
   obtain rfl:=Option.some.inj ho
   have e1:a.tmps.getD 29 undef=.agg (hcl (.pointer (some ⟨w.heap.size+i,0,none⟩)) fi n G (.slice xq (ts.length+1) xc) U):=hdep 2 _ 29 rfl rfl (by decide +kernel)
   obtain⟨gS,dS,rfl⟩:=below_grows hB
   refine lays_call #[.agg (hcl (.pointer (some ⟨w.heap.size+i,0,none⟩)) fi n G (.slice xq (ts.length+1) xc) U)] (by simp[Act.eval,e1]) (by kernel_rfl) ((HEN.out (L2++gS) dS (by rw[List.length_append];omega)).mono ?_)
   rintro e W' ⟨z,he,hb,hs⟩
   exact⟨z,he,hb,hs⟩
  |4,ho =>
   obtain rfl:=Option.some.inj ho
   exact lays_eq _ rfl (exec_load (hfix 5 (by decide +kernel)) (ldHA agj61 (blk_below hB HB5.out)))
  |5,ho =>
   obtain rfl:=Option.some.inj ho
   exact lays_eq _ rfl (exec_move (hfix 1 (by decide +kernel)))
  |6,ho =>
   obtain rfl:=Option.some.inj ho
   have e1:a.tmps.getD 31 undef=.agg (hcl (.pointer (some ⟨w.heap.size+i,0,none⟩)) fi n G (.slice tq ts.length tc) u):=hdep 4 _ 31 rfl rfl (by decide +kernel)
   have e2:a.tmps.getD 32 undef=.string t:=hdep 5 _ 32 rfl rfl (by decide +kernel)
   obtain⟨gS,dS,rfl⟩:=below_grows hB
   refine lays_call #[.agg (hcl (.pointer (some ⟨w.heap.size+i,0,none⟩)) fi n G (.slice tq ts.length tc) u),.string t] (by simp[Act.eval,e1,e2]) (by kernel_rfl) ((HLA.out (L2++gS) dS (by rw[List.length_append];omega)).mono ?_)
   rintro e W' ⟨z,he,hb,hs⟩
   exact⟨z,he,hb,hs⟩
  |7,ho =>
   obtain rfl:=Option.some.inj ho
   have e1:srB w L2.length i E1 (a.tmps.getD 30 undef) W:=hdep 3 _ 30 rfl rfl (by decide +kernel)
   have e2:srB w L2.length i E2 (a.tmps.getD 33 undef) W:=hdep 6 _ 33 rfl rfl (by decide +kernel)
   exact lays_rr2 e1 e2 (fun _ _ h=>h)
  |8,ho =>
   obtain rfl:=Option.some.inj ho
   have e1:rrB w L2.length i [E1,E2] (a.tmps.getD 34 undef) W:=hdep 7 _ 34 rfl rfl (by decide +kernel)
   refine lays_call #[a.tmps.getD 34 undef] (by simp[Act.eval]) (by kernel_rfl) ((concat_rr w W L2.length i [E1,E2] _ e1 HEL.out (by show 2≤500000;omega)).mono ?_)
   rintro e W' ⟨z,he,hb,hs⟩
   exact⟨z,he,hb,hs⟩
  |ix+9,ho=>simp at ho
 ·intro a W hB hd hsz hfix hT
  simp only[List.take_succ_cons,List.take_zero,List.drop_succ_cons,List.drop_zero]at hfix hT ⊢
  have f27:a.tmps.getD 27 undef=.pointer (some ⟨w.heap.size+jo,0,none⟩):=hT 0 _ 27 rfl rfl
  have f28:a.tmps.getD 28 undef=.agg (hcl (.pointer (some ⟨w.heap.size+i,0,none⟩)) fi n G (.slice xq (ts.length+1) xc) U):=hT 1 _ 28 rfl rfl
  have g35:srB w L2.length i ([E1,E2]:List (List Stp)).flatten (a.tmps.getD 35 undef) W:=hT 8 _ 35 rfl rfl
  rw[frame_lit a 37 hsz hd]
  clear hfix hT hsz hd
  simp only[List.range,List.range.loop,List.map]
  generalize a.tmps=t at *
  simp only[f27,f28]
  clear f27 f28
  obtain⟨gS,dS,rfl⟩:=below_grows hB
  obtain⟨vs,L3,d6,e6,hb,hr3,hs3⟩:=g35
  obtain rfl:=Wd_inj e6
  rcases hr3 with⟨_,h0,_⟩ | ⟨r,cap,X,T,hBr,hvr,hXr,hXl,hmX,hXv⟩
  ·exact absurd h0 HNE.out
  simp only[hvr]
  obtain⟨ss,hss⟩:∃ss,([E1,E2]:List (List Stp)).flatten=ss:=⟨_,rfl⟩
  have hap:=HAP.out
  have hel:=HEL.out
  rw[hss]at hs3 hmX hXv hap hel hvr ⊢
  obtain⟨m,hm⟩:∃m,ss.length=m:=⟨_,rfl⟩
  rw[hm]at hmX hXv hel hvr ⊢
  have HAP2:=Lib.hid hap
  obtain⟨L,hL⟩:∃L,L2++gS=L:=⟨_,rfl⟩
  have hLk:∀p,p<L2.length→L[p]?=L2[p]?:=fun p hp=>by rw[←hL,List.getElem?_append_left hp]
  have hLl:L2.length≤L.length:=by rw[←hL,List.length_append];omega
  rw[hL]at hXr hs3 ⊢
  have hLL:∀p,p<l.length→NotAt w (.slice tq ts.length tc) p→L[p]?=l[p]?:=fun p hp hn=>by
   rw[hLk p (by have:=HL2.out.1;have:=HL10.out;have:=HL0.out;omega),HL2.out.2 p (by have:=HL10.out;have:=HL0.out;omega)];exact HK1.out p hp hn
  have hl1L:l.length≤L.length:=by have:=HL2.out.1;have:=HL10.out;have:=HL0.out;omega
  have HT:=Lib.hid (turn_any w L dS i sd q vw (fun p=>O p∨(l.length≤p∧p<L.length)) M (HD.out.keep fun p hp hlt=>⟨fun h'=>h'.elim hp (fun h2=>by omega),hLL p hlt (rowV_off HROW.out fun ha=>hp (HAO.out p ha))⟩) (fun p hp=>hp.elim (fun h'=>Nat.lt_of_lt_of_le (HO.out p h') hl1L) (fun h'=>h'.2)) jo r m cap _ _ _ _ _ _ _ fi n G U (ts.length+1) xc xq X T vs ss (by rw[hLL jo (HO.out _ HJO.out) HJN.out];exact HJ.out) (.inl HJO.out) hXr (.inr ⟨by have:=HL2.out.1;have:=HL10.out;have:=HL0.out;omega,(List.getElem?_eq_some_iff.1 hXr).1⟩) (by omega) (by rw[←hXv,Nat.mul_one]) hm (hs3.mono fun p hp hlt=>⟨.inr ⟨by have:=HL2.out.1;have:=HL10.out;have:=HL0.out;omega,hlt⟩,rfl⟩) (by omega) (by omega))
  have HLL:=Lib.hid hLL
  have HLK:Hid (∀p,p<L1.length→L[p]?=L1[p]?):=Lib.hid fun p hp=>by rw[hLk p (by have:=HL2.out.1;omega)];exact HL2.out.2 p hp
  have HLE:Hid (l.length≤L.length∧L1.length≤L.length):=Lib.hid ⟨hl1L,by have:=HL2.out.1;omega⟩
  clear hLL hLk hLl hl1L hL hs3 hXr hXl hmX hXv hvr hap hel hm hss e6 hb hBr hB
  go_wp2_with fail
  refine HT.out.mono ?_
  rintro e w' ⟨l',d',vw',he,rfl,hD3,hl3,hs4,hj4⟩
  obtain⟨Z,hZ⟩:∃Z:Int,(if (runS M ss).2=true then (0:Int)else 7)=Z:=⟨_,rfl⟩
  rw[hZ]at he
  subst he
  have HZ:=Lib.hid hZ
  clear hZ
  have HD3:=Lib.hid hD3
  have HL3:=Lib.hid hl3
  have HS4:=Lib.hid hs4
  have HJ4:=Lib.hid hj4
  clear hD3 hl3 hs4 hj4 HT
  go_wp2
  go_ret
  have hz:=HZ.out
  have hj5:=HJ4.out
  have hjne:∀p,(A p∨l.length≤p)→p≠jo:=fun p hp e=>by
   subst e
   exact hp.elim HH.out.jA (fun h'=>by have:=HO.out _ HJO.out;omega)
  have hkeep:∀p,O p→p≠jo→¬A p→l'[p]?=l[p]?:=fun p hp hne hA=>(HS4.out p (.inl hp) hne).trans (HLL.out p (HO.out p hp) (rowV_off HROW.out hA))
  have hlt:∀p,(O p∨(l.length≤p∧p<L.length))→p<l'.length:=fun p hp=>by
   have:=HL3.out
   rcases hp with h' | h'
   ·have:=HO.out p h';have:=HLE.out.1;omega
   ·omega
  have hlen:l.length≤l'.length:=by have:=HL3.out;have:=HLE.out.1;omega
  unfold AppQ
  rw[HAP2.out]
  unfold Jn.turn
  cases hb:(runS M ss).2 with
  |true =>
   rw[hb,if_pos rfl]at hz hj5
   rw[if_pos rfl]
   refine⟨l',d',vw',.slice xq (ts.length+1) xc,fun p=>O p∨(l.length≤p∧p<L.length),by rw[←hz];rfl,rfl,HD3.out,⟨hj5,?_,fun h'=>hjne jo (h'.imp id fun h2=>h2.1) rfl,HOK.out.1⟩,hlen,hkeep,fun p hp=>.inl hp,hlt⟩
   show RowV _ w l' 1 (ts++[_]).length _ _
   rw[List.length_append]
   exact HR1.out.mono fun p hp hlt2=>⟨hp.imp id fun h'=>⟨h',.inr ⟨h',by have:=HLE.out.2;omega⟩⟩,(HS4.out p (hp.elim (fun ha=>.inl (HAO.out p ha)) fun h'=>.inr ⟨h',by have:=HLE.out.2;omega⟩) (hjne p hp)).trans (HLK.out p hlt2)⟩
  |false =>
   rw[hb,if_neg (by simp)]at hz hj5
   rw[if_neg (by simp)]
   exact⟨l',d',vw',.slice none 0 0,fun p=>O p∨(l.length≤p∧p<L.length),by rw[←hz];rfl,rfl,HD3.out,⟨hj5,.inl ⟨rfl,rfl,rfl⟩,fun h'=>hjne jo (h'.imp id fun h2=>h2.1) rfl,HOK.out.2⟩,hlen,hkeep,fun p hp=>.inl hp,hlt⟩
end Go.Proofs.YtlogjpmdfimgdaaGreatDoor.Jf
namespace Go.Proofs.YtlogjpmdfimgdaaGreatDoor.Jf
open Go Go.RowKit Go.Own.Jf Go.Own.Fr
attribute [-go_sem] Sm.execOp_bs run_string_add_if
attribute [local go_sem] agj64 csj64 szj64 ldJ6 sz4 isa4 ag4
theorem appQ_same{w:World}{l g:List Obj}{d jo i sd q:Nat}{vw vt:Value}{O A:Nat→Prop}{J:Jn}{M:Dk}(h:JAt w l jo i A J vt)(hD:DAt w l i sd q vw O M)(hO:∀p,O p→p<l.length){c:Nat}:AppQ w l jo i sd q O A (J,M,c) (.returned (.int .i64 (c:Int))) (Wd w (l++g) d) :=
 ⟨l++g,d,vw,vt,O,rfl,rfl,hD.app g,⟨app_some h.cells,(RowV.more h.row g).mono fun p hp _=>⟨.inl hp,rfl⟩,fun h'=>h'.elim h.jA fun h2=>by have:=(List.getElem?_eq_some_iff.1 h.cells).1;omega,h.ok⟩,by rw[List.length_append];omega,fun p hp _ _=>List.getElem?_append_left (hO p hp),fun _ hp=>hp,fun p hp=>by rw[List.length_append];have:=hO p hp;omega⟩
set_option maxRecDepth 100000 in
theorem append_any(w:World)(hR:Sm.Roots w)(l:List Obj)(d jo i sd q:Nat)(vw:Value)(O A:Nat→Prop)(J:Jn)(vt:Value)(M:Dk)(h:JAt w l jo i A J vt)(hD:DAt w l i sd q vw O M)(hO:∀p,O p→p<l.length)(hjO:O jo)(hAO:∀p,A p→O p)(t:ByteArray)(hc:M.count<1000000000000) :
  Calls Tryz.prog 34 #[.pointer (some ⟨w.heap.size+jo,0,none⟩),.string t] (Wd w l d) fun e w'=>AppQ w l jo i sd q O A (J.append M (bys t)) e w':=by
 by_cases hoff:J.off=true
 ·have ha:J.append M (bys t)=(J,M,7):=by unfold Jn.append;rw[if_pos hoff]
  rw[ha]
  have hj:=h.cells
  rw[hoff]at hj
  have HQ:Hid (∀d,AppQ w l jo i sd q O A (J,M,7) (.returned (.int .i64 7)) (Wd w l d)):=Lib.hid fun d=>by
   have:=appQ_same (g:=[]) (d:=d) (c:=7) h hD hO
   rw[List.append_nil]at this
   exact this
  clear h hD hO hjO hAO ha hoff
  go_enter Tryz.func34,Tryz.ntmps34
  go_wp2
  go_ret
  exact HQ.out _
 ·have hoff':J.off=false:=by simpa using hoff
  by_cases hr:J.now.room<(t.size:Int)
  ·have ha:J.append M (bys t)=(J,M,6):=by unfold Jn.append;rw[if_neg hoff,if_pos (by rw[bys_length];exact hr)]
   rw[ha]
   have hj:=h.cells
   rw[hoff']at hj
   have HQ:Hid (∀g d,AppQ w l jo i sd q O A (J,M,6) (.returned (.int .i64 6)) (Wd w (l++g) d)):=Lib.hid fun g d=>appQ_same (c:=6) h hD hO
   have HJR:=Lib.hid fun d=>jroom_any w l d jo i A J vt h
   obtain⟨rm,hrm⟩:∃rm,J.now.room=rm:=⟨_,rfl⟩
   rw[hrm]at hr HJR
   clear h hD hO hjO hAO ha hoff hoff' hrm
   go_enter Tryz.func34,Tryz.ntmps34
   go_wp2_with fail
   refine(HJR.out _).mono ?_
   rintro e w' ⟨rfl,g1,d1,rfl⟩
   go_wp2
   go_ret
   exact HQ.out _ _
  ·exact append_on w hR l d jo i sd q vw O A J vt M h hD hO hjO hAO t (by omega) hoff' hc
end Go.Proofs.YtlogjpmdfimgdaaGreatDoor.Jf
namespace Go.Proofs.YtlogjpmdfimgdaaGreatDoor.Jf
open Go Go.RowKit Go.Own.Jf Go.Own.Fr
theorem lays_snoc:∀(l:List (List Nat)) (h:Hf) (t:List Nat),h.lays (l++[t])=match h.lays l with | none=>none | some (k,ls)=>if k.room<t.length then none else some (k.with t,ls++[k.laying t])
 | [],h,t=>by
  simp only[List.nil_append,Hf.lays]
 |s :: l,h,t=>by
  rw[List.cons_append,Hf.lays,Hf.lays]
  by_cases hr:h.room<(s.length:Int)
  ·rw[if_pos hr,if_pos hr]
  ·rw[if_neg hr,if_neg hr,lays_snoc l (h.with s) t]
   cases (h.with s).lays l with
   |none=>rfl
   |some p =>
    obtain⟨k,ls⟩:=p
    simp only
    by_cases hk:k.room<(t.length:Int)
    ·rw[if_pos hk,if_pos hk]
    ·rw[if_neg hk,if_neg hk];rfl
theorem lays_append_none:∀(l r:List (List Nat)) (h:Hf),h.lays l=none→h.lays (l++r)=none
 | [],_,_,h=>by cases h
 |s :: l,r,h,hn=>by
  rw[List.cons_append,Hf.lays]
  rw[Hf.lays]at hn
  by_cases hr:h.room<(s.length:Int)
  ·rw[if_pos hr]
  ·rw[if_neg hr]at hn ⊢
   have:(h.with s).lays l=none:=by
    cases hc:(h.with s).lays l with
    |none=>rfl
    |some p=>rw[hc]at hn;cases hn
   rw[lays_append_none l r _ this]
theorem laying_length3(h:Hf)(t:List Nat):(h.laying t).length≤3*secs t.length:=by
 unfold Hf.laying secs
 rw[List.length_append,down_length,laid_length,List.length_singleton]
 omega
structure LaidOk(h k:Hf)(l:List (List Nat))(ls:List (List Stp)):Prop where
 len:ls.length=l.length
 first:k.first=h.first
 size:k.size=h.size
 gen:k.gen=h.gen
 texts:k.texts=h.texts++l
 used:h.used+l.length≤k.used
 fits:h.used≤h.size→k.used≤k.size
 steps:ls.flatten.length+3*h.used≤3*k.used
 short:∀t∈l,t.length≤65535
theorem room_ok{h:Hf}{t:List Nat}(hr:¬h.room<(t.length:Int)):t.length≤65535∧h.used+secs t.length≤h.size:=by
 unfold Hf.room at hr
 unfold secs
 constructor <;> omega
theorem lays_ok:∀(l:List (List Nat)) (h k:Hf) (ls:List (List Stp)),h.lays l=some (k,ls)→LaidOk h k l ls
 | [],h,k,ls,e=>by
  simp only[Hf.lays,Option.some.injEq,Prod.mk.injEq]at e
  obtain⟨rfl,rfl⟩:=e
  exact⟨rfl,rfl,rfl,rfl,by simp,Nat.le_refl _,id,by simp,fun t ht=>by cases ht⟩
 |t :: l,h,k,ls,e=>by
  rw[Hf.lays]at e
  by_cases hr:h.room<(t.length:Int)
  ·rw[if_pos hr]at e;cases e
  ·rw[if_neg hr]at e
   cases hc:(h.with t).lays l with
   |none=>rw[hc]at e;cases e
   |some p =>
    obtain⟨k',ls'⟩:=p
    rw[hc]at e
    simp only[Option.some.injEq,Prod.mk.injEq]at e
    obtain⟨rfl,rfl⟩:=e
    have ih:=lays_ok l (h.with t) k' ls' hc
    have h1:=room_ok hr
    have h2:=laying_length3 h t
    have h3:=secs_pos t.length
    have hu:(h.with t).used=h.used+secs t.length:=rfl
    have i1:=ih.used
    have i2:=ih.steps
    have i3:=ih.fits
    rw[hu]at i1 i2 i3
    refine⟨by rw[List.length_cons,List.length_cons,ih.len],ih.first,ih.size,ih.gen,by rw[ih.texts];simp[Hf.with],by rw[List.length_cons];omega,fun _=>i3 h1.2,?_,fun x hx=>?_⟩
    ·rw[List.flatten_cons,List.length_append];omega
    ·rcases List.mem_cons.1 hx with rfl | hx
     ·exact h1.1
     ·exact ih.short x hx
theorem lays_step{l:List (List Nat)}{h k:Hf}{ls:List (List Stp)}{i:Nat}{t:List Nat}(hi:l[i]?=some t)(hk:h.lays (l.take i)=some (k,ls)) :
  (k.room<t.length→h.lays l=none)∧(¬k.room<t.length→h.lays (l.take (i+1))=some (k.with t,ls++[k.laying t])):=by
 have e:l.take (i+1)=l.take i++[t]:=by rw[List.take_add_one,hi];rfl
 have hs:=lays_snoc (l.take i) h t
 rw[hk]at hs
 simp only at hs
 refine⟨fun hr=>?_,fun hr=>?_⟩
 ·rw[if_pos hr,←e]at hs
  have:=lays_append_none _ (l.drop (i+1)) h hs
  rwa [List.take_append_drop]at this
 ·rw[if_neg hr,←e]at hs
  exact hs
set_option maxRecDepth 100000 in
theorem lays_sr2{dst:Option Tmp}{ty:TypeId}{pos:String}{after:Array Edge}{guard:Option (Nat×Bool)}{x y:Operand}{W:World}{j:Nat}{ps:List (Value→World→Prop)}{a:Act}{w:World}{B i:Nat}{s1 s2:Stp}(hBW:∀L d,W=Wd w L d→B≤L.length)
  (h1:stB w B i s1 (a.eval x) W) (h2:stB w B i s2 (a.eval y) W) (hT:∀u W,srB w B i [s1,s2] u W→TL ps j u W):Lays Tryz.prog (TL ps) j { dst,op:=.buildSlice 129 2 #[(0,x),(1,y)],type:=ty,pos,after,guard } a W:=by
 obtain⟨L,d,rfl,t1⟩:=h1
 obtain⟨L',d',e,t2⟩:=h2
 obtain rfl:=Wd_inj e
 have hbs:=bsj782 t1.one t2.one w L d
 unfold bsN at hbs
 have he:(execOp a.eval { dst,op:=.buildSlice 129 2 #[(0,x),(1,y)],type:=ty,pos,after,guard }).run Tryz.prog (Wd w L d)=.ok (.value (.slice (some ⟨w.heap.size+L.length,0,none⟩) 2 2)) (Wd w (L++[.cells #[a.eval x,a.eval y] 131 (0,0)]) d):=by
  unfold execOp
  simp only[List.map_toArray,List.map_cons,List.map_nil,Sem.run_bind,hbs,Result.andThen_ok]
  rfl
 have hb:=hBW L d rfl
 refine lays_value he (below_of _ _ _ _ _) (hT _ _ ⟨[a.eval x,a.eval y],_,d,rfl,by rw[List.length_append];omega,.inr ⟨L.length,2,[a.eval x,a.eval y],131,hb,rfl,by simp,rfl,Nat.le_refl _,rfl⟩,rfl,fun k z s hx hs=>?_⟩)
 match k,hx,hs with
 |0,hx,hs =>
  simp at hx hs;subst hx;subst hs
  exact t1.mono fun p hp hlt=>⟨hp,List.getElem?_append_left hlt⟩
 |1,hx,hs =>
  simp at hx hs;subst hx;subst hs
  exact t2.mono fun p hp hlt=>⟨hp,List.getElem?_append_left hlt⟩
 |k+2,hx,_=>simp at hx
set_option maxRecDepth 100000 in
theorem lays_rr3{dst:Option Tmp}{ty:TypeId}{pos:String}{after:Array Edge}{guard:Option (Nat×Bool)}{x y z:Operand}{W:World}{j:Nat}{ps:List (Value→World→Prop)}{a:Act}{w:World}{B i:Nat}{s1 s2 s3:List Stp}
  (h1:srB w B i s1 (a.eval x) W) (h2:srB w B i s2 (a.eval y) W) (h3:srB w B i s3 (a.eval z) W) (hT:∀u W,rrB w B i [s1,s2,s3] u W→TL ps j u W):Lays Tryz.prog (TL ps) j { dst,op:=.buildSlice 160 3 #[(0,x),(1,y),(2,z)],type:=ty,pos,after,guard } a W:=by
 obtain⟨v1,L,d,rfl,hb,r1,t1⟩:=h1
 obtain⟨v2,L',d',e,_,r2,t2⟩:=h2
 obtain rfl:=Wd_inj e
 obtain⟨v3,L',d'',e,_,r3,t3⟩:=h3
 obtain rfl:=Wd_inj e
 have hbs:=bsj843 (RowV.one r1) (RowV.one r2) (RowV.one r3) w L d
 unfold bsN at hbs
 have he:(execOp a.eval { dst,op:=.buildSlice 160 3 #[(0,x),(1,y),(2,z)],type:=ty,pos,after,guard }).run Tryz.prog (Wd w L d)=.ok (.value (.slice (some ⟨w.heap.size+L.length,0,none⟩) 3 3)) (Wd w (L++[.cells #[a.eval x,a.eval y,a.eval z] 129 (0,0)]) d):=by
  unfold execOp
  simp only[List.map_toArray,List.map_cons,List.map_nil,Sem.run_bind,hbs,Result.andThen_ok]
  rfl
 refine lays_value he (below_of _ _ _ _ _) (hT _ _ ⟨L.length,3,[a.eval x,a.eval y,a.eval z],129,[v1,v2,v3],_,d,rfl,by rw[List.length_append];omega,hb,rfl,by simp,Nat.le_refl _,rfl,fun k z vs ss hx hv hs=>?_⟩)
 match k,hx,hv,hs with
 |0,hx,hv,hs =>
  simp at hx hv hs;subst hx;subst hv;subst hs
  exact⟨by rw[t1.1];exact RowV.more r1 _,t1.mono fun p hp hlt=>⟨hp,List.getElem?_append_left hlt⟩⟩
 |1,hx,hv,hs =>
  simp at hx hv hs;subst hx;subst hv;subst hs
  exact⟨by rw[t2.1];exact RowV.more r2 _,t2.mono fun p hp hlt=>⟨hp,List.getElem?_append_left hlt⟩⟩
 |2,hx,hv,hs =>
  simp at hx hv hs;subst hx;subst hv;subst hs
  exact⟨by rw[t3.1];exact RowV.more r3 _,t3.mono fun p hp hlt=>⟨hp,List.getElem?_append_left hlt⟩⟩
 |k+3,hx,_,_=>simp at hx
theorem exec_mf{ρ:Operand→Value}{W:World}{dst:Option Tmp}{ty:TypeId}{pos:String}{after:Array Edge}{guard:Option (Nat×Bool)}{x:Operand}{v:Value}{f:Nat}(h:ρ x=v):(execOp ρ { dst,op:=.makeFunc (.func f) #[x] #[],type:=ty,pos,after,guard }).run Tryz.prog W=.ok (.value (.func (.func f) #[v] #[])) W:=by
 subst h;simp[execOp,go_sem]
theorem rowV_on{A:Nat→Prop}{w:World}{l:List Obj}{sz n:Nat}{v:Value}{C:List Value}(h:RowV A w l sz n v C){p:Nat}(hp:¬NotAt w v p):A p:=by
 by_cases ha:A p
 ·exact ha
 ·exact absurd (rowV_off h ha) hp
end Go.Proofs.YtlogjpmdfimgdaaGreatDoor.Jf
namespace Go.Proofs.YtlogjpmdfimgdaaGreatDoor.Jf
open Go.RowKit Go.Own.Jf Go.Own.Fr
structure Live(M:Dk):Prop where
 on:M.off=false
 cat:M.cat=0
 ok:M.Ok
def Stp.fits(n:Nat):Stp→Prop
 | .w a s=>a<n∧s.length≤64∧B8 s
 | .f=>True
def seenS(x:List Nat):List Stp→List Nat
 | []=>x
 | .w a s :: r=>seenS (spl x (a*64) (filL s)) r
 | .f :: r=>seenS x r
theorem seenS_append(a b:List Stp):∀x,seenS x (a++b)=seenS (seenS x a) b:=by
 induction a with
 |nil=>intro x;rfl
 |cons s a ih=>intro x;cases s <;> exact ih _
theorem run_live{M:Dk}(h:Live M){s:Stp}(hs:s.fits M.n):(s.run M).2=0∧Live (s.run M).1∧(s.run M).1.n=M.n∧(s.run M).1.seen=seenS M.seen [s]∧(s=.f→(s.run M).1.count=0):=by
 cases s with
 |w a s =>
  obtain⟨ha,hl,hb⟩:=hs
  have hr:refE M.off M.n (a:Int)=0:=by unfold refE;rw[h.on,if_neg (by simp),if_neg (by omega)]
  have hw:M.write (a:Int) s=(M.waited a (filL s),0):=by
   unfold Dk.write
   rw[if_pos hr,if_neg (by omega),Int.toNat_natCast]
   unfold Dk.counted
   rw[if_pos (show (M.waited a (filL s)).cat=0 from h.cat)]
  show (M.write (a:Int) s).2=0∧Live (M.write (a:Int) s).1∧(M.write (a:Int) s).1.n=M.n∧(M.write (a:Int) s).1.seen=_∧_
  rw[hw]
  exact⟨rfl,⟨h.on,h.cat,h.ok.waited ha (filL_length hl) (filL_B8 hb)⟩,rfl,rfl,fun e=>by cases e⟩
 |f =>
  have hw:M.flush=(M.flushed,0):=by
   unfold Dk.flush
   rw[if_neg (by rw[h.on];simp)]
   have hc:M.counted=(M,0):=by unfold Dk.counted;rw[if_pos h.cat]
   rw[hc,if_pos rfl]
  show (M.flush).2=0∧Live (M.flush).1∧(M.flush).1.n=M.n∧(M.flush).1.seen=_∧_
  rw[hw]
  exact⟨rfl,⟨h.on,h.cat,h.ok.flushed⟩,rfl,rfl,fun _=>by show (M.flush).1.count=0;rw[hw];rfl⟩
theorem runS_live:∀(ss:List Stp) (M:Dk),Live M→(∀s∈ss,s.fits M.n)→(runS M ss).2=true∧Live (runS M ss).1∧(runS M ss).1.n=M.n∧(runS M ss).1.seen=seenS M.seen ss
 | [],M,h,_=>⟨rfl,h,rfl,rfl⟩
 |s :: r,M,h,hf=>by
  obtain⟨h1,h2,h3,h4,_⟩:=run_live h (hf s (by simp))
  have ih:=runS_live r (s.run M).1 h2 fun t ht=>by rw[h3];exact hf t (by simp[ht])
  rw[runS,if_pos h1]
  refine⟨ih.1,ih.2.1,by rw[ih.2.2.1,h3],?_⟩
  rw[ih.2.2.2,h4]
  cases s <;> rfl
theorem runS_count0(ss:List Stp)(M:Dk)(h:Live M)(hf:∀s∈ss,s.fits M.n):(runS M (ss++[.f])).1.count=0:=by
 obtain⟨h1,h2,h3,_⟩:=runS_live ss M h hf
 rw[runS_append,if_pos h1]
 have:=run_live h2 (s:=.f) trivial
 rw[runS,if_pos this.1]
 exact this.2.2.2.2 rfl
theorem spl_spl{x a b:List Nat}{o:Nat}(h:o+a.length+b.length≤x.length):spl (spl x (o+a.length) b) o a=spl x o (a++b):=by
 have h1:(x.take (o+a.length)).length=o+a.length:=by rw[List.length_take];omega
 unfold spl
 rw[List.append_assoc (x.take (o+a.length)),List.take_append_of_le_length (by omega),List.take_take,Nat.min_eq_left (by omega),List.drop_left' h1,List.length_append,Nat.add_assoc]
 simp[List.append_assoc]
theorem spl_take{x a:List Nat}{o p:Nat}(hp:p≤o)(ho:o≤x.length):(spl x o a).take p=x.take p:=by
 unfold spl
 rw[List.append_assoc,List.take_append_of_le_length (by rw[List.length_take];omega),List.take_take,Nat.min_eq_left hp]
theorem spl_at{x a:List Nat}{o:Nat}(ho:o≤x.length):(spl x o a).drop o=a++x.drop (o+a.length):=by
 unfold spl
 rw[List.append_assoc,List.drop_left' (by rw[List.length_take];omega)]
theorem spl_behind{x a:List Nat}{o p:Nat}(hp:o+a.length≤p)(ho:o≤x.length):(spl x o a).drop p=x.drop p:=by
 unfold spl
 have e:p=(x.take o++a).length+(p-(o+a.length)):=by rw[List.length_append,List.length_take];omega
 have e2:(spl x o a).drop p=(x.drop (o+a.length)).drop (p-(o+a.length)):=by
  unfold spl
  conv=>lhs;rw[e]
  rw[List.drop_append]
  simp
 unfold spl at e2
 rw[e2,List.drop_drop];congr 1;omega
def part(x:List Nat)(a k:Nat):List Nat:=(x.drop (a*64)).take (k*64)
theorem part_length{x:List Nat}{a k n:Nat}(hx:x.length=n*64)(h:a+k≤n):(part x a k).length=k*64:=by
 unfold part
 rw[List.length_take,List.length_drop,hx];omega
theorem part_out{x s:List Nat}{a k b n m:Nat}(hx:x.length=n*64)(hs:s.length=m*64)(hb:b+m≤n)(h:a+k≤b∨b+m≤a):part (spl x (b*64) s) a k=part x a k:=by
 unfold part
 rcases h with h | h
 ·have e:∀y:List Nat,(y.drop (a*64)).take (k*64)=(y.take ((a+k)*64)).drop (a*64):=fun y=>by
   rw[List.drop_take];congr 1;omega
  rw[e,e,spl_take (by omega) (by omega)]
 ·rw[spl_behind (by omega) (by omega)]
theorem part_in{x s:List Nat}{a k b n m:Nat}(hx:x.length=n*64)(hs:s.length=m*64)(h:b+m≤k)(hn:a+k≤n):part (spl x ((a+b)*64) s) a k=spl (part x a k) (b*64) s:=by
 have h1:((x.drop (a*64)).take (b*64)).length=b*64:=by rw[List.length_take,List.length_drop,hx];omega
 have e0:x.take ((a+b)*64)=x.take (a*64)++(x.drop (a*64)).take (b*64):=by
  rw[show (a+b)*64=a*64+b*64 by omega,List.take_add]
 have e1:(spl x ((a+b)*64) s).drop (a*64)=(x.drop (a*64)).take (b*64)++(s++x.drop ((a+b)*64+s.length)):=by
  unfold spl
  rw[e0,List.append_assoc,List.append_assoc,List.drop_left' (by rw[List.length_take];omega)]
 unfold part
 rw[e1,spl,List.take_take,Nat.min_eq_left (by omega),List.append_assoc,List.take_append,List.take_of_length_le (by omega),h1,List.take_append,List.take_of_length_le (l:=s) (by omega)]
 congr 2
 rw[List.drop_take,List.drop_drop]
 rw[hs]
 have e2:a*64+(b*64+m*64)=(a+b)*64+m*64:=by omega
 rw[e2]
 congr 1;omega
end Go.Proofs.YtlogjpmdfimgdaaGreatDoor.Jf
namespace Go.Proofs.YtlogjpmdfimgdaaGreatDoor.Jf
open Go.RowKit Go.Own.Jf Go.Own.Fr
theorem filL_eq(s:List Nat):filL s=s++rep (64-s.length):=by
 unfold filL spl
 rw[List.take_zero,List.nil_append,Nat.zero_add]
 unfold rep
 rw[List.drop_replicate]
theorem seenS_w(x:List Nat)(a:Nat)(s:List Nat)(r:List Stp):seenS x (.w a s :: r)=seenS (spl x (a*64) (filL s)) r:=rfl
theorem seenS_f(x:List Nat)(r:List Stp):seenS x (.f :: r)=seenS x r:=rfl
theorem seenS_nil(x:List Nat):seenS x []=x:=rfl
theorem down_zero(h:Hf)(y:List Nat):h.down y 0=[.f,.w (h.first+h.used) (chunk y 0)]:=rfl
theorem down_succ(h:Hf)(y:List Nat)(c:Nat):h.down y (c+1)=.w (h.first+(h.used+(c+1))) (chunk y (c+1)) :: h.down y c:=rfl
theorem chunk_fill(y:List Nat)(K i:Nat)(h:(i+1)*64≤y.length+K):filL (chunk y i)=((y++rep K).drop (i*64)).take 64:=by
 have hl:(chunk y i).length=min 64 (y.length-i*64):=by unfold chunk;rw[List.length_take,List.length_drop]
 rw[filL_eq,hl]
 unfold chunk rep
 rw[List.drop_append,List.take_append,List.length_drop,List.drop_replicate,List.take_replicate]
 congr 2
 omega
theorem chunk_le(y:List Nat)(i:Nat):(chunk y i).length≤64:=by unfold chunk;rw[List.length_take];omega
theorem spl_next{x Y:List Nat}{o m k:Nat}(hx:o+m+k≤x.length)(hY:m+k≤Y.length):spl (spl x (o+m) ((Y.drop m).take k)) o (Y.take m)=spl x o (Y.take (m+k)):=by
 have hl:(Y.take m).length=m:=by rw[List.length_take];omega
 have hf:((Y.drop m).take k).length=k:=by rw[List.length_take,List.length_drop];omega
 rw[List.take_add]
 have:=spl_spl (x:=x) (a:=Y.take m) (b:=(Y.drop m).take k) (o:=o) (by omega)
 rw[hl]at this
 exact this
theorem spl_len{x s:List Nat}{o k:Nat}(hs:s.length≤k)(h:o+k≤x.length):(spl x o s).length=x.length:=spl_length _ _ _ (by omega)
theorem down_nat(f u c X Y:Nat)(h1:(f+u+(c+1+1))*64≤X)(h2:(c+1+1)*64≤Y):(f+(u+(c+1)))*64=(f+u)*64+(c+1)*64∧(c+1+1)*64=(c+1)*64+64∧(f+u+(c+1))*64≤X∧(f+u)*64+(c+1)*64+64≤X∧(c+1)*64+64≤Y∧(c+1)*64≤Y:=by
 have e2:(c+1+1)*64=(c+1)*64+64:=Nat.succ_mul (c+1) 64
 have e:(f+u+(c+1+1))*64=(f+u)*64+(c+1)*64+64:=by rw[Nat.add_mul,e2,←Nat.add_assoc]
 have e3:(f+u+(c+1))*64=(f+u)*64+(c+1)*64:=Nat.add_mul _ _ _
 have e4:(f+(u+(c+1)))*64=(f+u)*64+(c+1)*64:=by rw[←Nat.add_assoc,e3]
 rw[e]at h1
 rw[e2]at h2
 refine⟨e4,e2,?_,h1,h2,Nat.le_trans (Nat.le_add_right _ _) h2⟩
 rw[e3]
 exact Nat.le_trans (Nat.le_add_right _ _) h1
theorem down_aux(h:Hf)(y Y:List Nat)(hc:∀i,(i+1)*64≤Y.length→filL (chunk y i)=(Y.drop (i*64)).take 64)(c:Nat):∀x:List Nat,(h.first+h.used+(c+1))*64≤x.length→(c+1)*64≤Y.length→seenS x (h.down y c)=spl x ((h.first+h.used)*64) (Y.take ((c+1)*64)):=by
 induction c with
 |zero =>
  intro x h1 h2
  rw[down_zero,seenS_f,seenS_w,seenS_nil,hc 0 h2,Nat.zero_mul,List.drop_zero,Nat.zero_add,Nat.one_mul]
 |succ c ih =>
  intro x h1 h2
  obtain⟨e1,e2,k1,k2,k3,k4⟩:=down_nat h.first h.used c _ _ h1 h2
  rw[down_succ,seenS_w,hc (c+1) h2,e1,e2]
  have h5:(spl x ((h.first+h.used)*64+(c+1)*64) ((Y.drop ((c+1)*64)).take 64)).length=x.length:=spl_len (k:=64) (by rw[List.length_take];exact Nat.min_le_left _ _) k2
  rw[ih _ (by rw[h5];exact k1) k4]
  exact spl_next k2 k3
theorem down_seen(h:Hf)(y:List Nat)(K c:Nat)(x:List Nat)(h1:(h.first+h.used+(c+1))*64≤x.length)(h2:(c+1)*64≤y.length+K):seenS x (h.down y c)=spl x ((h.first+h.used)*64) ((y++rep K).take ((c+1)*64)) :=
 down_aux h y (y++rep K) (fun i hi=>chunk_fill y K i (by rw[List.length_append,rep_length]at hi;exact hi)) c x h1 (by rw[List.length_append,rep_length];exact h2)
theorem laid_last(g n:Nat)(t:List Nat):((laidL g n t).length-1)/64+1=secs t.length:=by
 rw[laid_length];unfold secs;omega
theorem laying_seen(h:Hf)(t x:List Nat)(hx:(h.first+h.used+secs t.length)*64≤x.length):seenS x (h.laying t)=spl x ((h.first+h.used)*64) (recL h.gen h.texts.length t):=by
 have hl:=laid_last h.gen h.texts.length t
 have h2:=laid_le h.gen h.texts.length t
 unfold Hf.laying
 rw[seenS_append,seenS_f,seenS_nil]
 rw[down_seen h _ (secs t.length*64-(laidL h.gen h.texts.length t).length) _ x (by rw[hl];exact hx) (by rw[hl];omega),hl,List.take_of_length_le (by rw[List.length_append,rep_length];omega)]
 rfl
theorem ending_seen(h:Hf)(x:List Nat):seenS x h.ending=if h.used=h.size then x else spl x ((h.first+h.used)*64) (rep 64):=by
 unfold Hf.ending
 split
 ·rfl
 ·rw[seenS_w,seenS_nil,filL_eq]
  rfl
def Stp.inR(lo hi:Nat):Stp→Prop
 | .w a s=>lo≤a∧a<hi∧s.length≤64∧B8 s
 | .f=>True
theorem Stp.inR.fits{lo hi n:Nat}{s:Stp}(h:s.inR lo hi)(hn:hi≤n):s.fits n:=by
 cases s with
 |w a s=>exact⟨Nat.lt_of_lt_of_le h.2.1 hn,h.2.2⟩
 |f=>trivial
theorem down_in(h:Hf)(y:List Nat)(hy:B8 y){n:Nat}:∀c,h.first+h.used+c<n→∀s∈h.down y c,s.inR h.first n
 |0,hc,s,hs=>by
  simp only[Hf.down,List.mem_cons,List.not_mem_nil,or_false]at hs
  rcases hs with rfl | rfl
  ·trivial
  ·exact⟨by omega,by omega,chunk_le _ _,(hy.drop _).take _⟩
 |c+1,hc,s,hs=>by
  rcases List.mem_cons.1 hs with rfl | hs
  ·exact⟨by omega,by omega,chunk_le _ _,(hy.drop _).take _⟩
  ·exact down_in h y hy c (by omega) s hs
theorem laying_in(h:Hf)(t:List Nat)(ht:B8 t){n:Nat}(hn:h.first+h.used+secs t.length≤n):∀s∈h.laying t,s.inR h.first n:=by
 intro s hs
 have hl:=laid_last h.gen h.texts.length t
 rcases List.mem_append.1 hs with hs | hs
 ·exact down_in h _ (laid_B8 _ _ _ ht) _ (by omega) s hs
 ·obtain rfl:=List.mem_singleton.1 hs;trivial
theorem ending_in(h:Hf){n:Nat}(hu:h.used≤h.size)(hn:h.first+h.size≤n):∀s∈h.ending,s.inR h.first n:=by
 intro s hs
 unfold Hf.ending at hs
 split at hs
 ·cases hs
 ·obtain rfl:=List.mem_singleton.1 hs
  exact⟨by omega,by omega,by simp,fun x hx=>by cases hx⟩
theorem seenS_out{lo hi F S n:Nat}(hd:F+S≤lo∨hi≤F)(hn:hi≤n):∀(ss:List Stp) (x:List Nat),x.length=n*64→(∀s∈ss,s.inR lo hi)→part (seenS x ss) F S=part x F S
 | [],_,_,_=>rfl
 | .f :: r,x,hx,h=>seenS_out hd hn r x hx fun s hs=>h s (by simp[hs])
 | .w a s :: r,x,hx,h=>by
  obtain⟨h1,h2,h3,_⟩:Stp.inR lo hi (.w a s):=h _ (by simp)
  have hf:(filL s).length=1*64:=by rw[filL_length h3]
  rw[seenS_w,seenS_out hd hn r _ (by rw[put_length hx (Nat.lt_of_lt_of_le h2 hn) (by omega)]) fun s hs=>h s (by simp[hs]),part_out hx hf (by omega) (by omega)]
theorem seenS_len{lo hi n:Nat}(hn:hi≤n):∀(ss:List Stp) (x:List Nat),x.length=n*64→B8 x→(∀s∈ss,s.inR lo hi)→(seenS x ss).length=n*64∧B8 (seenS x ss)
 | [],_,hx,hb,_=>⟨hx,hb⟩
 | .f :: r,x,hx,hb,h=>seenS_len hn r x hx hb fun s hs=>h s (by simp[hs])
 | .w a s :: r,x,hx,hb,h=>by
  obtain⟨h1,h2,h3,h4⟩:Stp.inR lo hi (.w a s):=h _ (by simp)
  exact seenS_len hn r _ (put_length hx (Nat.lt_of_lt_of_le h2 hn) (by rw[filL_length h3];omega)) (hb.spl (filL_B8 h4) _) fun s hs=>h s (by simp[hs])
def recsL(g:Nat):Nat→List (List Nat)→List Nat
 |_,[]=>[]
 |n,t :: l=>recL g n t++recsL g (n+1) l
def sumS(l:List (List Nat)):Nat:=(l.map fun t=>secs t.length).sum
theorem sumS_snoc(l:List (List Nat))(t:List Nat):sumS (l++[t])=sumS l+secs t.length:=by simp[sumS]
theorem recsL_length(g:Nat):∀(l:List (List Nat)) (n:Nat),(recsL g n l).length=sumS l*64
 | [],_=>rfl
 |t :: l,n=>by
  rw[recsL,List.length_append,rec_length,recsL_length g l]
  simp[sumS,Nat.add_mul]
theorem lays_used:∀(l:List (List Nat)) (h k:Hf) (ls:List (List Stp)),h.lays l=some (k,ls)→k.used=h.used+sumS l
 | [],h,k,ls,e=>by
  simp only[Hf.lays,Option.some.injEq,Prod.mk.injEq]at e
  obtain⟨rfl,rfl⟩:=e
  rfl
 |t :: l,h,k,ls,e=>by
  rw[Hf.lays]at e
  by_cases hr:h.room<(t.length:Int)
  ·rw[if_pos hr]at e;cases e
  ·rw[if_neg hr]at e
   cases hc:(h.with t).lays l with
   |none=>rw[hc]at e;cases e
   |some p =>
    rw[hc]at e
    simp only[Option.some.injEq,Prod.mk.injEq]at e
    obtain⟨rfl,rfl⟩:=e
    rw[lays_used l (h.with t) _ p.2 hc]
    show h.used+secs t.length+_=_
    simp[sumS];omega
theorem lays_seen:∀(l:List (List Nat)) (h k:Hf) (ls:List (List Stp)) (x:List Nat),h.lays l=some (k,ls)→(h.first+k.used)*64≤x.length→seenS x ls.reverse.flatten=spl x ((h.first+h.used)*64) (recsL h.gen h.texts.length l)
 | [],h,k,ls,x,e,_=>by
  simp only[Hf.lays,Option.some.injEq,Prod.mk.injEq]at e
  obtain⟨rfl,rfl⟩:=e
  simp[seenS,recsL,spl]
 |t :: l,h,k,ls,x,e,hx=>by
  have hu:=lays_used _ _ _ _ e
  rw[Hf.lays]at e
  by_cases hr:h.room<(t.length:Int)
  ·rw[if_pos hr]at e;cases e
  ·rw[if_neg hr]at e
   cases hc:(h.with t).lays l with
   |none=>rw[hc]at e;cases e
   |some p =>
    obtain⟨k',ls'⟩:=p
    rw[hc]at e
    simp only[Option.some.injEq,Prod.mk.injEq]at e
    obtain⟨rfl,rfl⟩:=e
    have hu2:sumS (t :: l)=secs t.length+sumS l:=by simp[sumS]
    rw[List.reverse_cons,List.flatten_append,seenS_append,lays_seen l (h.with t) k' ls' x hc hx]
    have hrl:=recsL_length (h.with t).gen l (h.with t).texts.length
    rw[show [h.laying t].flatten=h.laying t by simp,laying_seen h t _ (by rw[spl_length _ _ _ (by rw[hrl];show (h.first+(h.used+secs t.length))*64+_≤_;rw[hu,hu2]at hx;omega)];rw[hu,hu2]at hx;omega)]
    have e2:((h.with t).first+(h.with t).used)*64=(h.first+h.used)*64+(recL h.gen h.texts.length t).length:=by
     rw[rec_length];show (h.first+(h.used+secs t.length))*64=_;omega
    have e3:(h.with t).texts.length=h.texts.length+1:=by show (h.texts++[t]).length=_;simp
    rw[e2,spl_spl (by rw[rec_length,hrl];rw[hu,hu2]at hx;omega),recsL,e3]
    rfl
theorem lays_in:∀(l:List (List Nat)) (h k:Hf) (ls:List (List Stp)) {n:Nat},h.lays l=some (k,ls)→(∀t∈l,B8 t)→h.used≤h.size→h.first+h.size≤n→∀s∈ls.flatten,s.inR h.first n
 | [],h,k,ls,n,e,_,_,_=>by
  simp only[Hf.lays,Option.some.injEq,Prod.mk.injEq]at e
  obtain⟨rfl,rfl⟩:=e
  intro s hs;cases hs
 |t :: l,h,k,ls,n,e,hb,hu,hn=>by
  rw[Hf.lays]at e
  by_cases hr:h.room<(t.length:Int)
  ·rw[if_pos hr]at e;cases e
  ·rw[if_neg hr]at e
   cases hc:(h.with t).lays l with
   |none=>rw[hc]at e;cases e
   |some p =>
    obtain⟨k',ls'⟩:=p
    rw[hc]at e
    simp only[Option.some.injEq,Prod.mk.injEq]at e
    obtain⟨rfl,rfl⟩:=e
    have h1:=room_ok hr
    intro s hs
    rw[List.flatten_cons]at hs
    rcases List.mem_append.1 hs with hs | hs
    ·exact laying_in h t (hb t (by simp)) (by omega) s hs
    ·exact lays_in l (h.with t) k' ls' hc (fun t' ht'=>hb t' (by simp[ht'])) h1.2 hn s hs
inductive Tw (x:List Nat):Hf→Hf→Prop
 |refl (h:Hf):Tw x h h
 |step {h h' k:Hf}:h.next x=some h'→Tw x h' k→Tw x h k
theorem next_some{h h':Hf}{x:List Nat}(e:h.next x=some h'):∃g n t,takenL (x.drop (h.used*64))=some (g,n,t)∧n=h.texts.length∧(h.gen=0∨g=h.gen)∧h'=({ h with gen:=g }:Hf).with t:=by
 unfold Hf.next at e
 split at e
 ·cases e
 ·rename_i g n t ht
  split at e
  ·cases e
  ·rename_i hc
   simp only[Option.some.injEq]at e
   exact⟨g,n,t,ht,by omega,by omega,e.symm⟩
theorem next_make{h:Hf}{x:List Nat}{g n:Nat}{t:List Nat}(ht:takenL (x.drop (h.used*64))=some (g,n,t))(hn:n=h.texts.length)(hg:h.gen=0∨g=h.gen):h.next x=some (({ h with gen:=g }:Hf).with t):=by
 rw[next_of_some ht,if_neg (by omega)]
theorem next_used{h h':Hf}{x:List Nat}(e:h.next x=some h'):h.used+1≤h'.used∧h'.texts.length=h.texts.length+1∧h'.first=h.first∧h'.size=h.size:=by
 obtain⟨g,n,t,_,_,_,rfl⟩:=next_some e
 have:=secs_pos t.length
 refine⟨?_,?_,rfl,rfl⟩
 ·show _≤h.used+secs t.length;omega
 ·show (h.texts++[t]).length=_;simp
theorem next_local{h h':Hf}{x y:List Nat}(e:h.next x=some h')(hy:y.take (h'.used*64)=x.take (h'.used*64)):h.next y=some h':=by
 obtain⟨g,n,t,ht,hn,hg,rfl⟩:=next_some e
 refine next_make (taken_local ht ?_) hn hg
 exact drop_take_of hy (by show _≤(h.used+secs t.length)*64;omega)
theorem Tw.used{x:List Nat}{h k:Hf}(t:Tw x h k):h.used+k.texts.length≤k.used+h.texts.length∧h.texts.length≤k.texts.length∧k.first=h.first∧k.size=h.size:=by
 induction t with
 |refl h=>exact⟨Nat.le_refl _,Nat.le_refl _,rfl,rfl⟩
 |step e _ ih =>
  have:=next_used e
  exact⟨by omega,by omega,by rw[ih.2.2.1,this.2.2.1],by rw[ih.2.2.2,this.2.2.2]⟩
theorem Tw.local{x y:List Nat}{h k:Hf}(t:Tw x h k)(hy:y.take (k.used*64)=x.take (k.used*64)):Tw y h k:=by
 induction t with
 |refl h=>exact .refl h
 | @step h h' k e t ih =>
  have hu:=t.used
  refine .step (next_local e ?_) (ih hy)
  have h3:=congrArg (List.take (h'.used*64)) hy
  rwa [List.take_take,List.take_take,Nat.min_eq_left (by omega)]at h3
theorem Tw.trans{x:List Nat}{h k m:Hf}(a:Tw x h k)(b:Tw x k m):Tw x h m:=by
 induction a with
 |refl=>exact b
 |step e _ ih=>exact .step e (ih b)
theorem Tw.tell{x:List Nat}{h k:Hf}(t:Tw x h k)(hn:k.next x=none):∀f,k.texts.length≤f+h.texts.length→Hf.tell x f h=k:=by
 induction t with
 |refl h=>intro f _;exact next_none hn f
 |step e t ih =>
  intro f hf
  have h1:=next_used e
  have h2:=t.used
  obtain⟨f',rfl⟩:∃f',f=f'+1:=⟨f-1,by omega⟩
  rw[next_tell e]
  exact ih hn f' (by omega)
theorem tell_tw(x:List Nat):∀(f:Nat) (h:Hf),Tw x h (Hf.tell x f h)
 |0,h=>.refl h
 |f+1,h=>by
  rw[Hf.tell]
  split
  ·exact .refl h
  ·rename_i k hk
   exact .step hk (tell_tw x f k)
theorem tell_end{x:List Nat}{n:Nat}(hx:x.length=n*64):∀(f:Nat) (h:Hf),n<h.used+f→(Hf.tell x f h).next x=none
 |0,h,hf=>by
  cases hc:h.next x with
  |none=>exact hc
  |some k =>
   obtain⟨g,m,t,ht,_⟩:=next_some hc
   have:=taken_fits hx ht
   omega
 |f+1,h,hf=>by
  rw[Hf.tell]
  split
  ·assumption
  ·rename_i k hk
   have:=next_used hk
   exact tell_end hx f k (by omega)
end Go.Proofs.YtlogjpmdfimgdaaGreatDoor.Jf

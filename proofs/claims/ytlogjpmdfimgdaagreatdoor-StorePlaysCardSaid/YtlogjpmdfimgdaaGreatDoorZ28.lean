/- A journal opened: by contract. No condition but that the power is on, and no cut armed. | A journal's texts, handed out: by contract. No condition but the sizes. | A disk, and a journal on it, among the call's own blocks: each operation by contract. No condition but that the disk counts little. | Two rows of texts that are the same; writes and a flush of a disk; rows of texts wherever they lie. No condition but the sizes. -/
import Derived.Test.YtlogjpmdfimgdaaGreatDoorZ26
import Derived.Test.YtlogjpmdfimgdaaGreatDoorZ27
import Derived.Test.YtlogjpmdfimgdaaGreatDoorZ25
namespace Go.Proofs.YtlogjpmdfimgdaaGreatDoor.Jf
open Go Go.RowKit Go.Own.Jf Go.Own.Fr
def OpenQ(w:World)(l:List Obj)(i:Nat)(r:Option Jn×Nat)(e:Ending)(w':World):Prop :=
 ∃g' d',w'=Wd w (l++g') d'∧((r.1=none∧e=.returned (.tuple #[.pointer none,.int .i64 ((r.2:Nat):Int)])) ∨
  ∃J jo vt,r.1=some J∧l.length≤jo∧e=.returned (.tuple #[.pointer (some ⟨w.heap.size+jo,0,none⟩),.int .i64 ((r.2:Nat):Int)])∧JAt w (l++g') jo i (fun p=>l.length≤p∧p≠jo) J vt)
def tdB(w:World)(B i:Nat)(T:Hf)(v:Value)(W:World):Prop:=∃vt L d,W=Wd w L d∧v=.agg (hcl (.pointer (some ⟨w.heap.size+i,0,none⟩)) T.first T.size T.gen vt T.used)∧B≤L.length∧RowV (fun p=>B≤p) w L 1 T.texts.length vt (strs T.texts)
theorem tdB_last(w:World)(B i:Nat)(T:Hf):Lasts (tdB w B i T):=by
 rintro v W W' ⟨vt,L,d,rfl,hv,hb,hr⟩ hB
 obtain⟨g,d',rfl⟩:=below_grows hB
 exact⟨vt,L++g,d',rfl,hv,by rw[List.length_append];omega,hr.more g⟩
def alB(w:World)(B:Nat)(v:Value)(W:World):Prop:=∃b L d,W=Wd w L d∧v=.pointer (some ⟨w.heap.size+b,0,none⟩)∧B≤b∧L[b]?=some (.cells (hcl (.pointer none) 0 0 0 (.slice none 0 0) 0) 107 (0,0))
theorem alB_last(w:World)(B:Nat):Lasts (alB w B):=by
 rintro v W W' ⟨b,L,d,rfl,hv,hb,hr⟩ hB
 obtain⟨g,d',rfl⟩:=below_grows hB
 exact⟨b,L++g,d',rfl,hv,hb,app_some hr⟩
def DP(i:Nat)(v:Value)(W:World):Prop:=(i=5∨i=6)→∃b,v=.pointer (some ⟨b,0,none⟩)∧W.heap.size≤b
def UP(i j:Nat)(v x:Value):Prop:=((i=5∧j=6)∨(i=6∧j=5))→v≠x
theorem alB_ne{w:World}{B:Nat}{v x:Value}{W:World}(h:alB w B x W)(hv:∃b,v=.pointer (some ⟨b,0,none⟩)∧W.heap.size≤b):v≠x:=by
 obtain⟨b,rfl,hb⟩:=hv
 obtain⟨b',L,d,rfl,rfl,_,hL⟩:=h
 have:=(List.getElem?_eq_some_iff.1 hL).1
 rw[Wd_size]at hb
 intro e
 simp at e
 try omega
theorem _root_.Go.Own.Jf.RowV.setH{A:Nat→Prop}{w:World}{L:List Obj}{n b:Nat}{v:Value}{ts:List (List Nat)}{dv vt dv' vt':Value}{a m g u a' m' g' u':Nat}(h:RowV A w L 1 n v (strs ts))(hb:L[b]?=some (.cells (hcl dv a m g vt u) 107 (0,0)))(hdv:∃p,dv=.pointer p:=by exact⟨_,rfl⟩):RowV A w (L.set b (.cells (hcl dv' a' m' g' vt' u') 107 (0,0))) 1 n v (strs ts):=by
 rcases h with h | ⟨j,c,X,t,hA,hv,hj,hX,hn,hXt⟩
 ·exact .inl h
 ·by_cases e:b=j
  ·subst e
   rw[hb]at hj
   simp only[Option.some.injEq,Obj.cells.injEq]at hj
   obtain⟨hc,rfl,-⟩:=hj
   have hX':X=(hcl dv a m g vt u).toList:=by rw[hc]
   have hl:X.length=6:=by rw[hX'];rfl
   obtain⟨p,rfl⟩:=hdv
   by_cases h0:n=0
   ·subst h0
    refine .inr ⟨b,c,(hcl dv' a' m' g' vt' u').toList,107,hA,hv,by rw[Array.toArray_toList];exact set_some hb,by rw[←hX,hl];rfl,Nat.zero_le _,?_⟩
    rw[Nat.zero_mul,List.take_zero]at hXt ⊢
    exact hXt
   ·exfalso
    have h1:(strs ts)[0]?=some (.pointer p):=by
     rw[←hXt,List.getElem?_take_of_lt (by omega),hX'];rfl
    unfold strs at h1
    rw[List.getElem?_map]at h1
    cases h2:ts[0]? with
    |none=>rw[h2]at h1;cases h1
    |some s=>rw[h2]at h1;simp at h1
  ·exact .inr ⟨j,c,X,t,hA,hv,by rw[List.getElem?_set_ne e];exact hj,hX,hn,hXt⟩
theorem open_end{w:World}{l L:List Obj}{d i jo B:Nat}{M:Dk}{J:Jn}{vt:Value}{e:Ending}(ho:openJ M=(some J,0))(hl:∀p,p<l.length→L[p]?=l[p]?){o:Obj}{L':List Obj}(hL:L'=L++[o])(hjo:l.length≤L.length∧jo=L.length)(he:e=.returned (.tuple #[.pointer (some ⟨w.heap.size+jo,0,none⟩),.int .i64 0]))(hr:RowV (fun p=>B≤p) w L 1 J.now.texts.length vt (strs J.now.texts))(hB:∀p,B≤p→l.length≤p)(hg:Good J.now)(hs:J.now.first≤4096∧J.now.size≤4096)
  (hob:o=.cells (jcl (.pointer (some ⟨w.heap.size+i,0,none⟩)) J.now.first J.now.size J.now.gen vt J.now.used J.off) 110 (0,0):=by rfl):OpenQ w l i (openJ M) e (Wd w L' d):=by
 subst hL;subst hob
 obtain⟨hlL,rfl⟩:=hjo
 obtain⟨g,hgl⟩:=prefix_of hl
 have h3:=sumS_ge J.now.texts
 have h4:=hg.used
 refine⟨g++[_],d,by rw[hgl,List.append_assoc],.inr ⟨J,L.length,vt,by rw[ho],hlL,by rw[ho];exact he,?_⟩⟩
 rw[←List.append_assoc,←hgl]
 exact⟨by simp,hr.mono fun p hp hlt=>⟨⟨hB p hp,by omega⟩,List.getElem?_append_left hlt⟩,fun h'=>h'.2 rfl,⟨hs.1,hs.2,hg.fits,by omega,hg.gen⟩⟩
attribute [-go_sem] Sm.execOp_bs run_string_add_if
attribute [local go_sem] agj61 csj61 szj61 agj64 csj64 szj64 agj25 isaj25 csj25 szj25 agj9 isaj9 csj9 szj9 agj32 isaj32 csj32 szj32 agj38 isaj38 csj38 szj38 agj78 isaj78 csj78 szj78 ldJA ldJ6 ldJ3 sz4 isa4 ag4 zj61 alXA ldH0 ldH1 ldH2 ldH3 ldH4 ldH5 ldHA stHAp stHAv buj61b buj64 zj64
theorem exec_al61{ρ:Operand→Value}{w:World}{L:List Obj}{d:Nat}{dst:Option Tmp}{ty:TypeId}{pos:String}{after:Array Edge}{guard:Option (Nat×Bool)}:(execOp ρ { dst,op:=.alloc 107,type:=ty,pos,after,guard }).run Tryz.prog (Wd w L d)=.ok (.value (.pointer (some ⟨w.heap.size+L.length,0,none⟩))) (Wd w (L++[.cells (hcl (.pointer none) 0 0 0 (.slice none 0 0) 0) 107 (0,0)]) d):=by
 simp[go_sem]
set_option maxRecDepth 100000 in
theorem open_bad(w:World)(l:List Obj)(d i s q:Nat)(vw:Value)(O:Nat→Prop)(M:Dk)(h:DAt w l i s q vw O M)(hb:M.n<8∨M.n%2≠0) :
  Calls Tryz.prog 24 #[.pointer (some ⟨w.heap.size+i,0,none⟩)] (Wd w l d) fun e w'=>e=.returned (.tuple #[.pointer none,.int .i64 1])∧w'=Wd w l d:=by
 have HS:=Lib.hid fun d=>size2_any w l d i s q vw O M h
 have hn2:=h.ok.n2
 obtain⟨n,hn⟩:∃n,M.n=n:=⟨_,rfl⟩
 rw[hn]at hb hn2 HS
 clear hn h
 by_cases h8:n<8
 ·have h8i:(n:Int)<8:=by omega
  clear hb
  go_enter Tryz.func24,Tryz.ntmps24
  go_wp2_with fail
  refine(HS.out _).mono ?_
  rintro e w' ⟨rfl,rfl⟩
  go_wp2
  go_ret2
  exact⟨rfl,rfl⟩
 ·have h8i:¬(n:Int)<8:=by omega
  have hm:((n:Int)%2 != 0)=true:=by
   have:¬(n:Int)%2=0:=by omega
   simpa using this
  clear hb
  go_enter Tryz.func24,Tryz.ntmps24
  go_wp2_with fail
  refine(HS.out _).mono ?_
  rintro e w' ⟨rfl,rfl⟩
  go_wp2
  go_ret2
  exact⟨rfl,rfl⟩
set_option maxRecDepth 100000 in
set_option maxHeartbeats 4000000 in
theorem open_good(w:World)(hR:Sm.Roots w)(l:List Obj)(d i s q:Nat)(vw:Value)(O:Nat→Prop)(M:Dk)(h:DAt w l i s q vw O M)(hl:Live M)(h8:8≤M.n)(h2:M.n%2=0) :
  Calls Tryz.prog 24 #[.pointer (some ⟨w.heap.size+i,0,none⟩)] (Wd w l d) fun e w'=>OpenQ w l i (openJ M) e w':=by
 have HS:=Lib.hid fun d=>size2_any w l d i s q vw O M h
 have HDN:=Lib.hid fun d=>down2_any w l d i s q vw O M h
 rw[hl.on]at HDN
 have HOL:=Lib.hid (open_live hl h8 h2)
 have hn2:=h.ok.n2
 have HB1:=toldB_ok hl.ok.seenL hl.ok.seenB (F:=0) (S:=M.n/2) (n:=M.n) (by omega)
 have HB2:=toldB_ok hl.ok.seenL hl.ok.seenB (F:=M.n/2) (S:=M.n/2) (n:=M.n) (by omega)
 have e1:(⟨0,M.n/2,0,0,[]⟩:Hf).told M=toldB M.seen 0 (M.n/2):=told_eq hl _ _ (by omega)
 have e2:(⟨M.n/2,M.n/2,0,0,[]⟩:Hf).told M=toldB M.seen (M.n/2) (M.n/2):=told_eq hl _ _ (by omega)
 obtain⟨S,hS⟩:∃S,M.n/2=S:=⟨_,rfl⟩
 rw[hS]at HOL HB1 HB2 e1 e2
 have HT1:=Lib.hid fun L d (hD:DAt w L i s q vw O M)=>told_any w L d i s q vw O M hR hD hl.on 0 S (by omega) (by omega)
 have HT2:=Lib.hid fun L d (hD:DAt w L i s q vw O M)=>told_any w L d i s q vw O M hR hD hl.on S S (by omega) (by omega)
 rw[e1]at HT1
 rw[e2]at HT2
 obtain⟨T1,hT1⟩:∃T1,toldB M.seen 0 S=T1:=⟨_,rfl⟩
 obtain⟨T2,hT2⟩:∃T2,toldB M.seen S S=T2:=⟨_,rfl⟩
 rw[hT1]at HT1 HOL HB1
 rw[hT2]at HT2 HOL HB2
 have HOT:=Lib.hid fun W=>other_any (some ⟨w.heap.size+i,0,none⟩) (.slice none 0 0) 0 S 0 0 (by omega) (Nat.zero_le _) W
 rw[Nat.sub_zero]at HOT
 obtain⟨n,hn⟩:∃n,M.n=n:=⟨_,rfl⟩
 rw[hn]at HS hn2 h8 h2 hS
 have h8i:¬(n:Int)<8:=by omega
 have hm0:((n:Int)%2)=0:=by omega
 have hS2:S≤2048:=by omega
 have HSB:=Lib.hid hS2
 have HSW:Hid (wrap64 (S:Int)=(S:Int)):=Lib.hid (IntWalk.wrap64_in _ (by omega))
 have HQ:Hid (((n:Int).tdiv 2)=(S:Int)):=Lib.hid (by
  have:(n:Int).tdiv 2=((n/2:Nat):Int):=rfl
  rw[this,hS])
 have HDA:=Lib.hid h
 have HK1:=Lib.hid HB1
 have HK2:=Lib.hid HB2
 clear h hT1 hT2 e1 e2 hn hS HB1 HB2 h8 h2 hl
 go_enter Tryz.func24,Tryz.ntmps24
 go_wp2_with fail
 refine(HS.out _).mono ?_
 rintro e w' ⟨rfl,rfl⟩
 go_wp2_with fail
 refine(HDN.out _).mono ?_
 rintro e w' ⟨rfl,rfl⟩
 clear hm0 h8i hn2 hS2
 have hq:=HQ.out
 have hSw:=HSW.out
 go_wp2_with fail
 clear hq hSw HQ HSW
 obtain⟨L1,hL1⟩:∃L1,l++[Obj.cells (hcl (.pointer (some ⟨w.heap.size+i,0,none⟩)) 0 S 0 (.slice none 0 0) 0) 107 (0,0)]=L1:=⟨_,rfl⟩
 have HB5:Hid (blk (Wd w L1 d) (w.heap.size+l.length)=some (Obj.cells (hcl (.pointer (some ⟨w.heap.size+i,0,none⟩)) 0 S 0 (.slice none 0 0) 0) 107 (0,0))):=Lib.hid (by rw[blk_at,←hL1];simp)
 have HL1:Hid (L1.length=l.length+1∧∀p,p<l.length→L1[p]?=l[p]?):=Lib.hid (by rw[←hL1];exact⟨by simp,fun p hp=>List.getElem?_append_left hp⟩)
 have HD1:Hid (DAt w L1 i s q vw O M):=Lib.hid (by rw[←hL1];exact HDA.out.app _)
 rw[hL1]
 clear hL1
 have HC1:Hid (∀L d,L1.length≤L.length→(∃g,L=L1++g)→Calls Tryz.prog 42 #[.agg (hcl (.pointer (some ⟨w.heap.size+i,0,none⟩)) 0 S 0 (.slice none 0 0) 0)] (Wd w L d) fun e W'=>∃v,e=.returned v∧Below (Wd w L d).heap.size (Wd w L d) W'∧tdB w L1.length i T1 v W'):=Lib.hid fun L d hl hg=>by
  obtain⟨g,rfl⟩:=hg
  refine(HT1.out (L1++g) d (HD1.out.app g)).mono ?_
  rintro e W' ⟨vt,l',d',rfl,rfl,hr,hl',hs'⟩
  obtain⟨g2,rfl⟩:=prefix_of hs'
  exact⟨_,rfl,below_of _ _ _ _ _,vt,_,d',rfl,rfl,by omega,hr.mono fun p hp _=>⟨by omega,rfl⟩⟩
 have HC2:Hid (∀L d,L1.length≤L.length→(∃g,L=L1++g)→Calls Tryz.prog 42 #[.agg (hcl (.pointer (some ⟨w.heap.size+i,0,none⟩)) S S 0 (.slice none 0 0) 0)] (Wd w L d) fun e W'=>∃v,e=.returned v∧Below (Wd w L d).heap.size (Wd w L d) W'∧tdB w L1.length i T2 v W'):=Lib.hid fun L d hl hg=>by
  obtain⟨g,rfl⟩:=hg
  refine(HT2.out (L1++g) d (HD1.out.app g)).mono ?_
  rintro e W' ⟨vt,l',d',rfl,rfl,hr,hl',hs'⟩
  obtain⟨g2,rfl⟩:=prefix_of hs'
  exact⟨_,rfl,below_of _ _ _ _ _,vt,_,d',rfl,rfl,by omega,hr.mono fun p hp _=>⟨by omega,rfl⟩⟩
 refine wp_region_fine_pairs 7 (TL [eqv (.agg (hcl (.pointer (some ⟨w.heap.size+i,0,none⟩)) 0 S 0 (.slice none 0 0) 0)),tdB w L1.length i T1,eqv (.agg (hcl (.pointer (some ⟨w.heap.size+i,0,none⟩)) 0 S 0 (.slice none 0 0) 0)),eqv (.agg (hcl (.pointer (some ⟨w.heap.size+i,0,none⟩)) S S 0 (.slice none 0 0) 0)),tdB w L1.length i T2,alB w L1.length,alB w L1.length]) DP UP ?hU (by kernel_rfl) (by kernel_rfl) (by kernel_rfl) (by kernel_rfl) (TL_last (List.forall_mem_cons.2 ⟨eqv_last _,List.forall_mem_cons.2 ⟨tdB_last _ _ _ _,List.forall_mem_cons.2 ⟨eqv_last _,List.forall_mem_cons.2 ⟨eqv_last _,List.forall_mem_cons.2 ⟨tdB_last _ _ _ _,List.forall_mem_cons.2 ⟨alB_last _ _,List.forall_mem_cons.2 ⟨alB_last _ _,fun _ h=>(List.not_mem_nil h).elim⟩⟩⟩⟩⟩⟩⟩)) (TL_no_guard (by kernel_rfl)) ?hS ?hE
 case hU =>
  intro ix j v x W hD hT
  refine⟨fun h=>?_,fun h=>?_⟩
  ·rcases h with⟨rfl,rfl⟩ | ⟨rfl,rfl⟩
   ·exact alB_ne hT (hD (.inl rfl))
   ·exact alB_ne hT (hD (.inr rfl))
  ·rcases h with⟨rfl,rfl⟩ | ⟨rfl,rfl⟩
   ·exact(alB_ne hT (hD (.inr rfl))).symm
   ·exact(alB_ne hT (hD (.inl rfl))).symm
 case hS =>
  intro ix o ho a W hB hdep hfix
  simp only[List.take_succ_cons,List.take_zero]at ho hdep hfix
  match ix,ho with
  |0,ho =>
   obtain rfl:=Option.some.inj ho
   refine lays_old (lays_eq _ rfl (exec_load (hfix 5 (by decide +kernel)) (ldHA agj61 (blk_below hB HB5.out)))) (fun v h=>absurd h (by decide))
  |1,ho =>
   obtain rfl:=Option.some.inj ho
   have e1:a.tmps.getD 23 undef=.agg (hcl (.pointer (some ⟨w.heap.size+i,0,none⟩)) 0 S 0 (.slice none 0 0) 0):=hdep 0 _ 23 rfl rfl (by decide +kernel)
   obtain⟨gS,dS,rfl⟩:=below_grows hB
   refine lays_old (lays_call #[.agg (hcl (.pointer (some ⟨w.heap.size+i,0,none⟩)) 0 S 0 (.slice none 0 0) 0)] (by simp[Act.eval,e1]) (by kernel_rfl) ((HC1.out (L1++gS) dS (by rw[List.length_append];omega) ⟨_,rfl⟩).mono ?_)) (fun v h=>absurd h (by decide))
   rintro e W' ⟨z,he,hb,hs⟩
   exact⟨z,he,hb,hs⟩
  |2,ho =>
   obtain rfl:=Option.some.inj ho
   refine lays_old (lays_eq _ rfl (exec_load (hfix 5 (by decide +kernel)) (ldHA agj61 (blk_below hB HB5.out)))) (fun v h=>absurd h (by decide))
  |3,ho =>
   obtain rfl:=Option.some.inj ho
   have e1:a.tmps.getD 25 undef=.agg (hcl (.pointer (some ⟨w.heap.size+i,0,none⟩)) 0 S 0 (.slice none 0 0) 0):=hdep 2 _ 25 rfl rfl (by decide +kernel)
   refine lays_old (lays_call #[.agg (hcl (.pointer (some ⟨w.heap.size+i,0,none⟩)) 0 S 0 (.slice none 0 0) 0)] (by simp[Act.eval,e1]) (by kernel_rfl) ((HOT.out W).mono ?_)) (fun v h=>absurd h (by decide))
   rintro e W' ⟨rfl,hg⟩
   exact⟨_,rfl,hg.below,rfl⟩
  |4,ho =>
   obtain rfl:=Option.some.inj ho
   have e1:a.tmps.getD 26 undef=.agg (hcl (.pointer (some ⟨w.heap.size+i,0,none⟩)) S S 0 (.slice none 0 0) 0):=hdep 3 _ 26 rfl rfl (by decide +kernel)
   obtain⟨gS,dS,rfl⟩:=below_grows hB
   refine lays_old (lays_call #[.agg (hcl (.pointer (some ⟨w.heap.size+i,0,none⟩)) S S 0 (.slice none 0 0) 0)] (by simp[Act.eval,e1]) (by kernel_rfl) ((HC2.out (L1++gS) dS (by rw[List.length_append];omega) ⟨_,rfl⟩).mono ?_)) (fun v h=>absurd h (by decide))
   rintro e W' ⟨z,he,hb,hs⟩
   exact⟨z,he,hb,hs⟩
  |5,ho =>
   obtain rfl:=Option.some.inj ho
   obtain⟨gS,dS,rfl⟩:=below_grows hB
   exact lays_value exec_al61 (below_of _ _ _ _ _) ⟨⟨_,_,_,rfl,rfl,by rw[List.length_append];omega,by simp⟩,fun _=>⟨_,rfl,by rw[Wd_size];exact Nat.le_refl _⟩⟩
  |6,ho =>
   obtain rfl:=Option.some.inj ho
   obtain⟨gS,dS,rfl⟩:=below_grows hB
   exact lays_value exec_al61 (below_of _ _ _ _ _) ⟨⟨_,_,_,rfl,rfl,by rw[List.length_append];omega,by simp⟩,fun _=>⟨_,rfl,by rw[Wd_size];exact Nat.le_refl _⟩⟩
  |ix+7,ho=>simp at ho
 case hE =>
  intro a W hB hd hsz hfix hT hPR
  have hne:a.tmps.getD 6 undef≠a.tmps.getD 7 undef:=hPR 5 6 _ _ 6 7 (by decide) rfl rfl rfl rfl (.inl ⟨rfl,rfl⟩)
  clear hPR
  simp only[List.take_succ_cons,List.take_zero,List.drop_succ_cons,List.drop_zero]at hfix hT ⊢
  have f0:a.tmps.getD 0 undef=.pointer (some ⟨w.heap.size+i,0,none⟩):=hfix 0 (by decide +kernel)
  have f5:a.tmps.getD 5 undef=.pointer (some ⟨w.heap.size+l.length,0,none⟩):=hfix 5 (by decide +kernel)
  have g24:tdB w L1.length i T1 (a.tmps.getD 24 undef) W:=hT 1 _ 24 rfl rfl
  have g27:tdB w L1.length i T2 (a.tmps.getD 27 undef) W:=hT 4 _ 27 rfl rfl
  have g6:alB w L1.length (a.tmps.getD 6 undef) W:=hT 5 _ 6 rfl rfl
  have g7:alB w L1.length (a.tmps.getD 7 undef) W:=hT 6 _ 7 rfl rfl
  rw[frame_lit a 37 hsz hd]
  clear hfix hT hsz hd
  simp only[List.range,List.range.loop,List.map]
  generalize a.tmps=t at *
  simp only[f0,f5]
  clear f0 f5
  obtain⟨gS,dS,rfl⟩:=below_grows hB
  obtain⟨v1,L',d1',e1,h24,hb1,hr1⟩:=g24
  obtain rfl:=Wd_inj e1
  obtain⟨v2,L',d2',e2,h27,hb2,hr2⟩:=g27
  obtain rfl:=Wd_inj e2
  obtain⟨b6,L',d3',e3,h6,hb6,hz6⟩:=g6
  obtain rfl:=Wd_inj e3
  obtain⟨b7,L',d4',e4,h7,hb7,hz7⟩:=g7
  obtain rfl:=Wd_inj e4
  rw[h6,h7]at hne
  have hne67:b6≠b7:=fun e=>hne (by rw[e])
  simp only[h24,h27,h6,h7]
  have HLS:Hid (L1.length≤(L1++gS).length∧∀p,p<L1.length→(L1++gS)[p]?=L1[p]?):=Lib.hid ⟨by rw[List.length_append];omega,fun p hp=>List.getElem?_append_left hp⟩
  obtain⟨L,hL⟩:∃L,L1++gS=L:=⟨_,rfl⟩
  rw[hL]at hr1 hr2 hz6 hz7 HLS ⊢
  obtain⟨q1,c1,rfl⟩:=hr1.form
  obtain⟨q2,c2,rfl⟩:=hr2.form
  generalize t.getD 2 undef=y2
  generalize t.getD 3 undef=y3
  generalize t.getD 4 undef=y4
  generalize t.getD 8 undef=y8
  generalize t.getD 9 undef=y9
  generalize t.getD 10 undef=y10
  generalize t.getD 11 undef=y11
  generalize t.getD 12 undef=y12
  generalize t.getD 13 undef=y13
  generalize t.getD 14 undef=y14
  generalize t.getD 15 undef=y15
  generalize t.getD 16 undef=y16
  generalize t.getD 17 undef=y17
  generalize t.getD 18 undef=y18
  generalize t.getD 19 undef=y19
  generalize t.getD 20 undef=y20
  generalize t.getD 21 undef=y21
  generalize t.getD 22 undef=y22
  generalize t.getD 23 undef=y23
  generalize t.getD 25 undef=y25
  generalize t.getD 26 undef=y26
  generalize t.getD 28 undef=y28
  generalize t.getD 29 undef=y29
  generalize t.getD 30 undef=y30
  generalize t.getD 31 undef=y31
  generalize t.getD 32 undef=y32
  generalize t.getD 33 undef=y33
  generalize t.getD 34 undef=y34
  generalize t.getD 35 undef=y35
  generalize t.getD 36 undef=y36
  have HR1:=Lib.hid hr1
  have HR2:=Lib.hid hr2
  have HZ:=Lib.hid (And.intro hz6 hz7)
  have HNE:=Lib.hid hne67
  have HBB:=Lib.hid (And.intro hb6 hb7)
  obtain⟨F1,S1,G1,U1,TS1⟩:=T1
  obtain⟨F2,S2,G2,U2,TS2⟩:=T2
  have hs1:∀X,(L.set b6 X)[b7]?=some (Obj.cells (hcl (.pointer none) 0 0 0 (.slice none 0 0) 0) 107 (0,0)):=fun X=>by rw[List.getElem?_set_ne hne67];exact hz7
  have hs2:∀X Y,((L.set b6 X).set b7 Y)[b6]?=some X:=fun X Y=>by rw[List.getElem?_set_ne hne67.symm];exact set_some hz6
  have hs3:∀X Y,((L.set b6 X).set b7 Y)[b7]?=some Y:=fun X Y=>set_some (hs1 X)
  have hs4:∀X Y Z,(((L.set b6 X).set b7 Y).set b6 Z)[b6]?=some Z:=fun X Y Z=>set_some (hs2 X Y)
  clear hr1 hr2 hb6 hb7 hne hne67 h24 h27 h6 h7 e1 e2 e3 e4 hb1 hb2 hL hB
  simp only at HC1 HC2 HOL ⊢
  by_cases hgt:G1<G2
  ·have hgi:(G1:Int)<(G2:Int):=by omega
   go_wp2_with fail
   go_ret2
   exact open_end (J:=⟨⟨F2,S2,G2,U2,TS2⟩,false⟩) (by rw[HOL.out,if_pos hgt]) (fun p hp=>by rw[List.getElem?_set_ne (by have:=HBB.out;have:=HL1.out.1;omega),List.getElem?_set_ne (by have:=HBB.out;have:=HL1.out.1;omega),List.getElem?_set_ne (by have:=HBB.out;have:=HL1.out.1;omega),HLS.out.2 p (by have:=HL1.out.1;omega)];exact HL1.out.2 p hp) rfl ⟨by have:=HLS.out.1;have:=HL1.out.1;simp only[List.length_set];omega,by simp only[List.length_set]⟩ rfl ((HR2.out.setH HZ.out.1).setH (hs1 _) |>.setH (hs2 _ _)) (fun p hp=>by have:=HL1.out.1;omega) HK2.out.1 (by have:=HK2.out.2.1;have h2:S2=S:=HK2.out.2.2.1;have h1:F2=S:=HK2.out.2.1;have:=HSB.out;show F2≤4096∧S2≤4096;omega)
  ·have hgi:¬(G1:Int)<(G2:Int):=by omega
   go_wp2_with fail
   go_ret2
   exact open_end (J:=⟨⟨F1,S1,G1,U1,TS1⟩,false⟩) (by rw[HOL.out,if_neg hgt]) (fun p hp=>by rw[List.getElem?_set_ne (by have:=HBB.out;have:=HL1.out.1;omega),List.getElem?_set_ne (by have:=HBB.out;have:=HL1.out.1;omega),HLS.out.2 p (by have:=HL1.out.1;omega)];exact HL1.out.2 p hp) rfl ⟨by have:=HLS.out.1;have:=HL1.out.1;simp only[List.length_set];omega,by simp only[List.length_set]⟩ rfl ((HR1.out.setH HZ.out.1).setH (hs1 _)) (fun p hp=>by have:=HL1.out.1;omega) HK1.out.1 (by have h2:S1=S:=HK1.out.2.2.1;have h1:F1=0:=HK1.out.2.1;have:=HSB.out;show F1≤4096∧S1≤4096;omega)
end Go.Proofs.YtlogjpmdfimgdaaGreatDoor.Jf
namespace Go.Proofs.YtlogjpmdfimgdaaGreatDoor.Jf
open Go Go.RowKit Go.Own.Jf Go.Own.Fr
attribute [-go_sem] Sm.execOp_bs run_string_add_if
theorem z9e:zeroOf Tryz.prog 9=.string .empty:=by kernel_rfl
theorem mkX_str{w:World}{l:List Obj}{d c:Nat}(hc:c≤1000000) :
  mkX Tryz.prog 29 (.string .empty) w l d 0 (c:Int)=.ok (.slice (some ⟨w.heap.size+l.length,0,none⟩) 0 c) (Wd w (l++[.cells (List.replicate c (Value.string .empty)).toArray 9 (0,0)]) d):=by
 have h1:(Tryz.prog.info? 9).map (fun i=>(i.zero,i.size,i.bytes))=some (some (.string .empty),1,16):=by kernel_rfl
 obtain⟨i,hi,h1⟩:=Option.map_eq_some_iff.1 h1
 simp only[Prod.mk.injEq]at h1
 obtain⟨hz,hs,hb⟩:=h1
 have hwc:IntKind.i64.wrap (c:Int)=(c:Int):=by rw[IntKind.wrap_i64];omega
 have hw0:IntKind.i64.wrap (0:Int)=0:=rfl
 have e1:¬((c:Int)<0):=by omega
 simp[mkX,Instr.makeSlice,run_underlying Tryz.underlying29,asInt,asIntOf,typeInfo,hi,hb,hwc,hw0,e1,sizeOf,hs,zeroValue,hz,Value.cells,newRow,Nat.mod_one,Wd_size,Wd_alloc]
 rw[if_neg (by omega)]
 by_cases h0:c=0
 ·subst h0
  rw[if_pos rfl]
  simp[Array.range_zero']
 ·have hrow:(Array.range c).map (fun _=>Value.string .empty)=Array.replicate c (Value.string .empty):=by
   apply Array.ext'
   simp[List.map_const',Array.toList_range]
  rw[if_neg h0,hrow]
attribute [local go_sem] agj61 csj61 szj61 agj64 csj64 szj64 agj25 isaj25 csj25 szj25 agj9 isaj9 csj9 szj9 agj32 isaj32 csj32 szj32 ldJ4 ldX_mix1 z9e mkX_str bsj32s
set_option maxRecDepth 100000 in
set_option maxHeartbeats 2000000 in
theorem texts_any(w:World)(l:List Obj)(d jo i:Nat)(A:Nat→Prop)(J:Jn)(vt:Value)(h:JAt w l jo i A J vt)(hs:∀t∈J.now.texts,t.length≤1000000∧B8 t) :
  Calls Tryz.prog 44 #[.pointer (some ⟨w.heap.size+jo,0,none⟩)] (Wd w l d) fun e w'=>∃v g' d',e=.returned v∧w'=Wd w (l++g') d'∧RowV (fun p=>l.length≤p) w (l++g') 1 J.now.texts.length v (strs J.now.texts):=by
 have hj:=h.cells
 have hrow:=h.row
 have hok:=h.ok
 obtain⟨n,hn⟩:∃n,J.now.texts.length=n:=⟨_,rfl⟩
 have hnb:n≤4096:=by have:=hok.texts;have:=hok.used;have:=hok.size;omega
 have hn6:n≤1000000:=by omega
 obtain⟨tq,tc,rfl⟩:=hrow.form
 rw[hn]at hj hrow ⊢
 have HROW:=Lib.hid hrow
 have HN:=Lib.hid hn
 have HS:=Lib.hid hs
 have HJ:=Lib.hid hj
 obtain⟨fi,hfi⟩:∃fi,J.now.first=fi:=⟨_,rfl⟩
 clear h hrow hn hs hok hfi
 go_enter Tryz.func44,Tryz.ntmps44
 have hjg:∀g',(l++g')[jo]?=_:=fun g'=>app_some HJ.out
 go_wp2_with fail
 go_loopw [3,19] (fun e ix wr=>∃(k:Nat) (L:List Obj) (d:Nat),k≤n∧Hid (RowV (fun p=>l.length≤p) w L 1 k e (strs (J.now.texts.take k)))∧ix=.int .i64 (k:Int)∧Hid (l.length≤L.length∧∀p,p<l.length→L[p]?=l[p]?)∧wr=Wd w L d) (fun _ i _=>n-(intOf i).toNat)
 case atStart =>
  refine⟨0,_,_,Nat.zero_le _,Lib.hid (.inr ⟨l.length,n,List.replicate n (.string .empty),9,Nat.le_refl _,rfl,by simp,by simp,Nat.zero_le _,rfl⟩),rfl,Lib.hid ⟨by simp,fun p hp=>List.getElem?_append_left hp⟩,rfl⟩
 case round =>
  clear hj hjg
  obtain⟨k,L,d2,hk,HR,rfl,HL,rfl⟩:=hrel
  by_cases hlt:k<n
  ·obtain⟨x,hx⟩:∃x,J.now.texts[k]?=some x:=⟨_,List.getElem?_eq_getElem (by rw[HN.out];exact hlt)⟩
   have hxs:=HS.out x (List.mem_of_getElem? hx)
   have hbx:bys (mkS x)=x:=bys_mkS _ hxs.2
   rcases HROW.out with⟨_,h0,_⟩ | ⟨j,c,X,T,hAj,hv,hjX,hXl,hnc,hXt⟩
   ·omega
   simp only[Value.slice.injEq]at hv
   obtain⟨rfl,_,rfl⟩:=hv
   have hva:X.toArray[k]?=some (.string (mkS x)):=by
    have h2:(strs J.now.texts)[k]?=some (.string (mkS x)):=by simp[strs,hx]
    rw[←hXt,List.getElem?_take_of_lt (by omega)]at h2
    rw[List.getElem?_toArray];exact h2
   have hblk:∀d,blk (Wd w L d) (w.heap.size+j)=some (.cells X.toArray T (0,0)):=fun d=>by rw[blk_at,HL.out.2 j (List.getElem?_eq_some_iff.1 hjX).1];exact hjX
   have hki:(k:Int)<n:=by omega
   have HC:=Lib.hid fun W=>clone_any (mkS x) (by rw[mkS_size];exact hxs.1) W
   have HX:=Lib.hid hx
   clear hx hXt hXl hjX
   go_wp2_with fail
   refine(HC.out _).mono ?_
   rintro e w' ⟨rfl,g1,d3,rfl⟩
   rw[Wd_wd]
   have HR1:Hid (RowV (fun p=>l.length≤p) w (L++g1++[.cells #[.string (mkS x)] 9 (0,0)]) 1 k _ (strs (J.now.texts.take k))):=Lib.hid (RowV.more (RowV.more HR.out g1) _)
   have HLT:Hid (RowV (fun _=>True) w (L++g1++[.cells #[.string (mkS x)] 9 (0,0)]) 1 1 (.slice (some ⟨w.heap.size+(L++g1).length,0,none⟩) 1 1) [.string (mkS x)]):=Lib.hid (.inr ⟨(L++g1).length,1,[_],9,trivial,rfl,by simp,rfl,Nat.le_refl _,rfl⟩)
   have HL1:Hid (l.length≤(L++g1).length∧∀p,p<l.length→(L++g1)[p]?=l[p]?):=Lib.hid ⟨by have:=HL.out.1;rw[List.length_append];omega,fun p hp=>by rw[List.getElem?_append_left (by have:=HL.out.1;omega)];exact HL.out.2 p hp⟩
   obtain⟨L1,hL1⟩:∃L1,L++g1=L1:=⟨_,rfl⟩
   rw[hL1]at HR1 HLT HL1 ⊢
   clear hL1 hblk hva
   go_wp2_with (refine wpList_row rfl (.tmp 23) (.tmp 26) 29 9 rfl rt32 (A:=fun p=>l.length≤p) (B:=fun _=>True) (fun p hp=>by have:=HL1.out.1;first | omega | (rw[List.length_append]at hp;omega)) _ k (strs (J.now.texts.take k)) rfl HR1.out _ 1 [.string (mkS x)] rfl HLT.out (by intro u hu;rw[List.mem_singleton.1 hu];rfl) (by omega) ?_)
   intro v3 l3 d4 HR3 HG3 HS3
   have HOF:Hid (l.length≤l3.length∧∀p,p<l.length→l3[p]?=l[p]?):=Lib.hid ⟨by have h1:=HG3.out;have h2:=HL1.out.1;first | omega | (rw[List.length_append]at h1;omega),fun p hp=>by
    rw[HS3.out p (by have:=HL1.out.1;first | omega | (rw[List.length_append];omega)) (rowV_off HR1.out (by omega)),List.getElem?_append_left (by have:=HL1.out.1;omega)];exact HL1.out.2 p hp⟩
   have HT:Hid (strs (J.now.texts.take (k+1))=strs (J.now.texts.take k)++[.string (mkS x)]):=Lib.hid (by rw[List.take_add_one,HX.out];simp[strs])
   go_wp2
   go_roundw
   case rel=>exact⟨k+1,l3,d4,by omega,by rw[HT.out];exact HR3,by go_num,HOF,rfl⟩
   case measure=>simp[intOf];omega
  ·obtain rfl:k=n:=by omega
   have hR:=HR.out
   rw[List.take_of_length_le (by rw[HN.out];exact Nat.le_refl _)]at hR
   have HR2:=Lib.hid hR
   clear hR
   go_wp2
   go_ret
   obtain⟨g2,rfl⟩:=prefix_of HL.out.2
   exact⟨_,g2,d2,rfl,rfl,HR2.out⟩
end Go.Proofs.YtlogjpmdfimgdaaGreatDoor.Jf
namespace Go.Proofs.YtlogjpmdfimgdaaGreatDoor.Jf
open Go Go.RowKit Go.Own.Jf Go.Own.Fr
def Sd(w:World)(P:Nat→Prop)(l:List Obj)(i s q:Nat)(M:Dk):Prop :=
 ∃vw O,DAt w l i s q vw O M∧(∀p,O p→p<l.length)∧∀p,P p→O p
def St(w:World)(P:Nat→Prop)(l:List Obj)(i s q jo:Nat)(J:Jn)(M:Dk):Prop :=
 ∃vw O A vt,DAt w l i s q vw O M∧JAt w l jo i A J vt∧(∀p,O p→p<l.length)∧O jo∧(∀p,A p→O p)∧∀p,P p→O p∧¬A p∧p≠jo
def Up(l l':List Obj)(P:Nat→Prop):Prop:=l.length≤l'.length∧∀p,P p→l'[p]?=l[p]?
def Pn(P:Nat→Prop)(l l':List Obj):Nat→Prop:=fun p=>P p∨(l.length≤p∧p<l'.length)
theorem St.disk{w:World}{P:Nat→Prop}{l:List Obj}{i s q jo:Nat}{J:Jn}{M:Dk}(h:St w P l i s q jo J M):Sd w P l i s q M:=by
 obtain⟨vw,O,A,vt,h1,_,h3,_,_,h6⟩:=h
 exact⟨vw,O,h1,h3,fun p hp=>(h6 p hp).1⟩
theorem St.mono{w:World}{P P':Nat→Prop}{l:List Obj}{i s q jo:Nat}{J:Jn}{M:Dk}(h:St w P l i s q jo J M)(hP:∀p,P' p→P p):St w P' l i s q jo J M:=by
 obtain⟨vw,O,A,vt,h1,h2,h3,h4,h5,h6⟩:=h
 exact⟨vw,O,A,vt,h1,h2,h3,h4,h5,fun p hp=>h6 p (hP p hp)⟩
theorem Sd.app{w:World}{P:Nat→Prop}{l:List Obj}{i s q:Nat}{M:Dk}(h:Sd w P l i s q M)(g:List Obj):Sd w (Pn P l (l++g)) (l++g) i s q M:=by
 obtain⟨vw,O,h1,h2,h3⟩:=h
 refine⟨vw,Pn O l (l++g),h1.keep fun p hp hlt=>⟨fun h'=>h'.elim hp fun h''=>by omega,List.getElem?_append_left hlt⟩,fun p hp=>hp.elim (fun h'=>by rw[List.length_append];have:=h2 p h';omega) fun h'=>h'.2,fun p hp=>hp.imp (h3 p) id⟩
theorem St.app{w:World}{P:Nat→Prop}{l:List Obj}{i s q jo:Nat}{J:Jn}{M:Dk}(h:St w P l i s q jo J M)(g:List Obj):St w (Pn P l (l++g)) (l++g) i s q jo J M:=by
 obtain⟨vw,O,A,vt,h1,h2,h3,h4,h5,h6⟩:=h
 refine⟨vw,Pn O l (l++g),A,vt,h1.keep fun p hp hlt=>⟨fun h'=>h'.elim hp fun h''=>by omega,List.getElem?_append_left hlt⟩,⟨app_some h2.cells,h2.row.more g,h2.jA,h2.ok⟩,fun p hp=>hp.elim (fun h'=>by rw[List.length_append];have:=h3 p h';omega) fun h'=>h'.2,.inl h4,fun p hp=>.inl (h5 p hp),fun p hp=>?_⟩
 rcases hp with hp | hp
 ·exact⟨.inl (h6 p hp).1,(h6 p hp).2⟩
 ·have hl:=(List.getElem?_eq_some_iff.1 h2.cells).1
  exact⟨.inr hp,fun ha=>by have:=h3 p (h5 p ha);omega,by omega⟩
theorem texts_st{w:World}{P:Nat→Prop}{l:List Obj}{i s q jo:Nat}{J:Jn}{M:Dk}(h:St w P l i s q jo J M)(hs:∀t∈J.now.texts,t.length≤1000000∧B8 t)(d:Nat) :
  Calls Tryz.prog 44 #[.pointer (some ⟨w.heap.size+jo,0,none⟩)] (Wd w l d) fun e w'=>∃v g' d',e=.returned v∧w'=Wd w (l++g') d'∧RowV (fun p=>l.length≤p) w (l++g') 1 J.now.texts.length v (strs J.now.texts):=by
 obtain⟨vw,O,A,vt,h1,h2,_⟩:=h
 exact texts_any w l d jo i A J vt h2 hs
def OpQ(w:World)(P:Nat→Prop)(l:List Obj)(i s q jo:Nat)(r:Jn×Dk×Nat)(e:Ending)(w':World):Prop :=
 ∃l' d',e=.returned (.int .i64 ((r.2.2:Nat):Int))∧w'=Wd w l' d'∧St w P l' i s q jo r.1 r.2.1∧Up l l' P
theorem opQ_of{w:World}{P:Nat→Prop}{l:List Obj}{i s q jo:Nat}{O A:Nat→Prop}{r:Jn×Dk×Nat}{e:Ending}{w':World}(h:AppQ w l jo i s q O A r e w')(hO:∀p,O p→p<l.length)(hjO:O jo)(hAO:∀p,A p→O p)(hP:∀p,P p→O p∧¬A p∧p≠jo):OpQ w P l i s q jo r e w':=by
 obtain⟨l',d',vw',vt',O',he,hw,hD,hJ,hl,hk,hOO,hO'⟩:=h
 refine⟨l',d',he,hw,⟨vw',O',fun p=>A p∨(l.length≤p∧O' p),vt',hD,hJ,hO',hOO _ hjO,fun p hp=>hp.elim (fun ha=>hOO p (hAO p ha)) fun h'=>h'.2,fun p hp=>?_⟩,hl,fun p hp=>hk p (hP p hp).1 (hP p hp).2.2 (hP p hp).2.1⟩
 have h1:=hP p hp
 exact⟨hOO p h1.1,fun h'=>h'.elim h1.2.1 fun h2=>by have:=hO p h1.1;omega,h1.2.2⟩
theorem append_st{w:World}(hR:Sm.Roots w){P:Nat→Prop}{l:List Obj}{i s q jo:Nat}{J:Jn}{M:Dk}(h:St w P l i s q jo J M)(t:ByteArray)(hc:M.count<1000000000000)(d:Nat) :
  Calls Tryz.prog 34 #[.pointer (some ⟨w.heap.size+jo,0,none⟩),.string t] (Wd w l d) fun e w'=>OpQ w P l i s q jo (J.append M (bys t)) e w':=by
 obtain⟨vw,O,A,vt,h1,h2,h3,h4,h5,h6⟩:=h
 exact(append_any w hR l d jo i s q vw O A J vt M h2 h1 h3 h4 h5 t hc).mono fun e w' hq=>opQ_of hq h3 h4 h5 h6
theorem anew_st{w:World}(hR:Sm.Roots w){P:Nat→Prop}{l:List Obj}{i s q jo:Nat}{J:Jn}{M:Dk}(h:St w P l i s q jo J M)(hfs:J.now.first≤J.now.size)(v:Value)(bs:List ByteArray)(hv:TxAt w l v bs)(hbs:bs.length≤100000)(hc:M.count<1000000000000)(d:Nat) :
  Calls Tryz.prog 63 #[.pointer (some ⟨w.heap.size+jo,0,none⟩),v] (Wd w l d) fun e w'=>OpQ w P l i s q jo (J.anew M (bs.map bys)) e w':=by
 obtain⟨vw,O,A,vt,h1,h2,h3,h4,h5,h6⟩:=h
 exact(anew_any w hR l d jo i s q vw O A J vt M h2 h1 h3 h4 h5 hfs v bs hv hbs hc).mono fun e w' hq=>opQ_of hq h3 h4 h5 h6
theorem open_st{w:World}(hR:Sm.Roots w){P:Nat→Prop}{l:List Obj}{i s q:Nat}{M:Dk}(h:Sd w P l i s q M)(hl:Live M)(h8:8≤M.n)(h2:M.n%2=0){J:Jn}(hJ:openJ M=(some J,0))(d:Nat) :
  Calls Tryz.prog 24 #[.pointer (some ⟨w.heap.size+i,0,none⟩)] (Wd w l d) fun e w'=>∃jo g' d',e=.returned (.tuple #[.pointer (some ⟨w.heap.size+jo,0,none⟩),.int .i64 0])∧w'=Wd w (l++g') d'∧St w P (l++g') i s q jo J M:=by
 obtain⟨vw,O,k1,k2,k3⟩:=h
 refine(open_good w hR l d i s q vw O M k1 hl h8 h2).mono ?_
 rintro e w' ⟨g',d',rfl,hq⟩
 rw[hJ]at hq
 rcases hq with⟨h0,_⟩ | ⟨J',jo,vt,h0,hjo,he,hJA⟩
 ·cases h0
 ·obtain rfl:=Option.some.inj h0
  have hlj:=(List.getElem?_eq_some_iff.1 hJA.cells).1
  refine⟨jo,g',d',he,rfl,vw,Pn O l (l++g'),fun p=>(l.length≤p∧p≠jo)∧p<(l++g').length,vt,k1.keep fun p hp hlt=>⟨fun h'=>h'.elim hp fun h''=>by omega,List.getElem?_append_left hlt⟩,⟨hJA.cells,hJA.row.mono fun p hp hlt=>⟨⟨hp,hlt⟩,rfl⟩,fun h'=>h'.1.2 rfl,hJA.ok⟩,fun p hp=>hp.elim (fun h'=>by rw[List.length_append];have:=k2 p h';omega) fun h'=>h'.2,.inr ⟨hjo,hlj⟩,fun p hp=>.inr ⟨hp.1.1,hp.2⟩,fun p hp=>?_⟩
  have:=k2 p (k3 p hp)
  exact⟨.inl (k3 p hp),fun h'=>by omega,by omega⟩
theorem new_st(w:World)(l:List Obj)(d n:Nat)(h1:1≤n)(h2:n≤4096):Calls Tryz.prog 23 #[.int .i64 (n:Int)] (Wd w l d) fun e w'=>∃i s q g' d',e=.returned (.tuple #[.pointer (some ⟨w.heap.size+i,0,none⟩),.int .i64 0])∧w'=Wd w (l++g') d'∧Sd w (fun p=>p<l.length) (l++g') i s q (newK n)∧i=l.length+2:=by
 refine(new_any w l d n h1 h2 (fun p=>p<l.length) fun p hp=>hp).mono ?_
 rintro e w' ⟨i,s,q,l',d',vw,he,rfl,hD,hK,hi⟩
 have hp:∀p,p<l.length→l'[p]?=l[p]?:=fun p hp=>hK.2 p hp hp
 obtain⟨g,rfl⟩:=prefix_of hp
 exact⟨i,s,q,g,d',he,rfl,⟨vw,_,hD,fun p hp=>by rw[List.length_append];omega,fun p hp=>hp⟩,hi⟩
end Go.Proofs.YtlogjpmdfimgdaaGreatDoor.Jf
namespace Go.Proofs.YtlogjpmdfimgdaaGreatDoor.Jf
open Go Go.RowKit Go.Own.Jf Go.Own.Fr
theorem St.other{w:World}{P:Nat→Prop}{l l':List Obj}{i s q jo:Nat}{J:Jn}{M:Dk}(h:St w P l i s q jo J M)(hl:l.length≤l'.length)(hs:∀p,p<l.length→¬P p→l'[p]?=l[p]?):St w P l' i s q jo J M:=by
 obtain⟨vw,O,A,vt,h1,h2,h3,h4,h5,h6⟩:=h
 have hj:=(List.getElem?_eq_some_iff.1 h2.cells).1
 refine⟨vw,O,A,vt,h1.keep fun p hp hlt=>⟨hp,hs p hlt fun h'=>hp (h6 p h').1⟩,⟨(hs jo hj fun h'=>(h6 jo h').2.2 rfl).trans h2.cells,h2.row.mono fun p hp hlt=>⟨hp,hs p hlt fun h'=>(h6 p h').2.1 hp⟩,h2.jA,h2.ok⟩,fun p hp=>Nat.lt_of_lt_of_le (h3 p hp) hl,h4,h5,h6⟩
attribute [-go_sem] Sm.execOp_bs run_string_add_if
attribute [local go_sem] agj9 isaj9 csj9 szj9 agj32 isaj32 csj32 szj32 ldX_mix1
set_option maxRecDepth 100000 in
theorem same_any(w:World)(l:List Obj)(d:Nat)(v1 v2:Value)(bs:List ByteArray)(h1:TxAt w l v1 bs)(h2:TxAt w l v2 bs)(hn:bs.length≤100000) :
  Calls Tryz.prog 12 #[v1,v2] (Wd w l d) fun e w'=>e=.returned (.bool true)∧∃d',w'=Wd w l d':=by
 obtain⟨q1,c1,rfl,h1⟩:=h1
 obtain⟨q2,c2,rfl,h2⟩:=h2
 obtain⟨n,hN⟩:∃n,bs.length=n:=⟨_,rfl⟩
 rw[hN]at hn ⊢
 have H1:=Lib.hid h1
 have H2:=Lib.hid h2
 have HN:=Lib.hid hN
 clear h1 h2 hN
 go_enter Tryz.func12,Tryz.ntmps12
 go_wp2_with fail
 go_loopw [5] (fun ix wr=>∃(k d:Nat),k≤n∧ix=.int .i64 (k:Int)∧wr=Wd w l d) (fun ix _=>n-(intOf ix).toNat)
 case atStart=>exact⟨0,d,Nat.zero_le _,rfl,rfl⟩
 case round =>
  obtain⟨k,d2,hk,rfl,rfl⟩:=hrel
  by_cases hlt:k<n
  ·obtain⟨s,hs⟩:∃s,bs[k]?=some s:=⟨_,List.getElem?_eq_getElem (by rw[HN.out];exact hlt)⟩
   have hne:bs≠[]:=fun e=>by rw[e]at hs;simp at hs
   obtain⟨b1,o1,X1,T1,f1,rfl,k1,k2⟩:=H1.out hne
   obtain⟨b2,o2,X2,T2,f2,rfl,k3,k4⟩:=H2.out hne
   have hx1:=k2 k s hs
   have hx2:=k4 k s hs
   have hb1:∀d,blk (Wd w l d) b1=some (.cells X1 T1 f1):=fun d=>k1 l d fun _ _=>rfl
   have hb2:∀d,blk (Wd w l d) b2=some (.cells X2 T2 f2):=fun d=>k3 l d fun _ _=>rfl
   have hki:(k:Int)<n:=by omega
   clear k1 k2 k3 k4 hs hne H1 H2
   go_wp2_with fail
   go_region
   go_wp2
   go_roundw
   case rel=>exact⟨k+1,_,by omega,by go_num,rfl⟩
   case measure=>simp[intOf];omega
  ·obtain rfl:k=n:=by omega
   go_wp2
   go_ret
   exact⟨rfl,_,rfl⟩
end Go.Proofs.YtlogjpmdfimgdaaGreatDoor.Jf

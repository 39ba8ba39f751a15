/- A value read off a text; Parse: by contract. No condition but the sizes. | Parse, by contract. No condition but the text's size. | A number's bytes behind others, by contract. No condition but the sizes. | A text's bytes behind others; a number's: by contract. No condition but the sizes. | What a value is told by its type. No condition. | A value's bytes behind others; Print: by contract. No condition but the sizes. | Going through places: by contract. No condition. | What is found of a type; Int, Text, Bool: by contract. No condition. | A list that is found, and its copy: by contract. No condition but the lists' sizes. | A list within a value; Same; MustText of a text: by contract. No condition but the sizes. -/
import Derived.Test.YtlogjpmdfimgdaaGreatDoorX02
import Derived.Test.YtlogjpmdfimgdaaGreatDoorX01
import Derived.IntWalk
import Derived.Test.YtlogjpmdfimgdaaGreatDoorProg
import Derived.WalkKit
namespace Go.Proofs.YtlogjpmdfimgdaaGreatDoor
open Go.RowKit Go.Own
theorem str_one(c:Nat)(h:c<256)(W:World):(Instr.index 9 (.string (mkS [c])) (.int .i64 0)).run Tryz.prog W=.ok (.int .u8 (c:Int)) W:=by
 have:=gi_mkS [c] 0 (by simp) (fun x hx=>by simp at hx;omega) W
 exact this
theorem body_cases(g:Option (List Nat→Option (A×List Nat)))(c:Nat)(t:List Nat) :
  (c=105∧body g (c :: t)=if t.length<8 then none else some (.num (s64 (val (t.take 8))),t.drop 8))∨(c=115∧body g (c :: t)=textR t)∨(c=121∧body g (c :: t)=some (.bool true,t))∨(c=110∧body g (c :: t)=some (.bool false,t)) ∨
   (c=108∧body g (c :: t)=listR g t)∨(c≠105∧c≠115∧c≠121∧c≠110∧c≠108∧body g (c :: t)=none):=by
 rw[body]
 by_cases h1:c=105
 ·exact Or.inl ⟨h1,by rw[if_pos h1]⟩
 rw[if_neg h1]
 by_cases h2:c=115
 ·exact Or.inr (Or.inl ⟨h2,by rw[if_pos h2];rfl⟩)
 rw[if_neg h2]
 by_cases h3:c=121
 ·exact Or.inr (Or.inr (Or.inl ⟨h3,by rw[if_pos h3]⟩))
 rw[if_neg h3]
 by_cases h4:c=110
 ·exact Or.inr (Or.inr (Or.inr (Or.inl ⟨h4,by rw[if_pos h4]⟩)))
 rw[if_neg h4]
 by_cases h5:c=108
 ·exact Or.inr (Or.inr (Or.inr (Or.inr (Or.inl ⟨h5,by rw[if_pos h5]⟩))))
 exact Or.inr (Or.inr (Or.inr (Or.inr (Or.inr ⟨h1,h2,h3,h4,h5,by rw[if_neg h5]⟩))))
set_option maxRecDepth 100000 in
set_option maxHeartbeats 1000000 in
theorem read_none(B:Nat)(z:Int)(w:World)(hB:Box w B (mkS [])) :
  Calls Tryz.prog 77 #[.func (.func 114) #[] #[.pointer (some ⟨B,0,none⟩)],.int .i64 z] w (ReadQ B none w):=by
 have HT:=Lib.hid (take_no B 1 (mkS []) (by rw[mkS_size];exact Nat.zero_lt_one) w hB)
 have HB:=Lib.hid hB
 clear hB
 go_enter Tryz.func77,Tryz.ntmps77
 go_wp2_with (go_at_call 114;fail)
 refine HT.out.mono ?_
 rintro e w' ⟨rfl,rfl⟩
 go_wp2
 go_ret2
 exact ReadQ.no HB.out (grown_refl _ _)
theorem ReadQ.past{B:Nat}{r:Option (A×List Nat)}{w w1 w2:World}{e:Ending}(hg:w.grownBy w1 (some B))(h:ReadQ B r w1 e w2):ReadQ B r w e w2:=by
 rcases h with⟨a,t',v,rfl,rfl,hv,hb,hg2⟩ | ⟨rfl,v,s,rfl,hb,hg2⟩
 ·exact ReadQ.ok (hv.keep (fun b h _=>Nat.le_trans hg.size h) (Nat.le_refl _) (fun _ _ _=>rfl)) hb (grown_two hg hg2)
 ·exact ReadQ.no hb (grown_two hg hg2)
set_option maxRecDepth 100000 in
set_option maxHeartbeats 1000000 in
theorem read_some(m:Nat)(hm:m≤8)(ih:∀k,m=k+1→ReadsB k)(c:Nat)(t:List Nat)(B:Nat)(w:World)(z:Int)(hb:∀x∈c :: t,x<256)(hz:z+m=8)(hB:Box w B (mkS (c :: t))) :
  Calls Tryz.prog 77 #[.func (.func 114) #[] #[.pointer (some ⟨B,0,none⟩)],.int .i64 z] w (ReadQ B (rd m (c :: t)) w):=by
 have HT:=Lib.hid (take_ok B 1 (c :: t) (by simp) w hB)
 have e1:(c :: t).take 1=[c]:=by simp
 have e2:(c :: t).drop 1=t:=rfl
 rw[e1,e2]at HT
 have hc:c<256:=hb c (by simp)
 have hbt:∀x∈t,x<256:=fun x hx=>hb x (by simp[hx])
 have hix:=str_one c hc
 obtain⟨q,hq⟩:∃q,mkS [c]=q:=⟨_,rfl⟩
 rw[hq]at HT hix
 clear hB hb e1 e2 hq
 have HTB:=Lib.hid hbt
 clear hbt
 obtain⟨g,hg,hgm⟩:=rd_body m
 rw[hg]
 rcases body_cases g c t with⟨rfl,he⟩ | ⟨rfl,he⟩ | ⟨rfl,he⟩ | ⟨rfl,he⟩ | ⟨rfl,he⟩ | ⟨n1,n2,n3,n4,n5,he⟩
 ·rw[he]
  clear he hg hgm ih
  by_cases hl:t.length<8
  ·rw[if_pos hl]
   have HN:=Lib.hid (fun w hB=>num_no B 8 (mkS t) (by rw[mkS_size];exact hl) w hB)
   clear hl
   go_enter Tryz.func77,Tryz.ntmps77
   go_wp2_with (go_at_call 114;fail)
   refine HT.out.mono ?_
   rintro e w1 ⟨rfl,hb1,hg1⟩
   have HB1:=Lib.hid hb1
   have HG1:=Lib.hid hg1
   clear hb1 hg1
   go_wp2_with (go_at_call 115;fail)
   refine(HN.out _ HB1.out).mono ?_
   rintro e w2 ⟨rfl,rfl⟩
   go_wp2
   go_ret2
   exact ReadQ.no HB1.out HG1.out
  ·rw[if_neg hl]
   have HN:=Lib.hid (fun w hB=>num_yes B 8 t HTB.out (by omega) (by omega) w hB)
   have hv:val (t.take 8)<18446744073709551616:=by
    have h1:=val_lt (t.take 8) (fun c hc=>HTB.out c (List.mem_of_mem_take hc))
    rw[show (t.take 8).length=8 by rw[List.length_take];omega]at h1
    exact h1
   have HW:Hid (wrap64 ((val (t.take 8):Nat):Int)=s64 (val (t.take 8))):=Lib.hid (by rw[←wrap_s64 _ hv];unfold wrap64;simp[IntKind.wrap,IntKind.bits,IntKind.signed];omega)
   have HIN:=Lib.hid (s64_in (n:=val (t.take 8)) (by unfold two64;exact hv))
   obtain⟨n,hn⟩:∃n,val (t.take 8)=n:=⟨_,rfl⟩
   rw[hn]at HN HW HIN ⊢
   clear hl hn hv
   go_enter Tryz.func77,Tryz.ntmps77
   go_wp2_with (go_at_call 114;fail)
   refine HT.out.mono ?_
   rintro e w1 ⟨rfl,hb1,hg1⟩
   have HB1:=Lib.hid hb1
   have HG1:=Lib.hid hg1
   clear hb1 hg1
   go_wp2_with (go_at_call 115;fail)
   refine(HN.out _ HB1.out).mono ?_
   rintro e w2 ⟨rfl,hb2,hg2⟩
   have HB2:=Lib.hid hb2
   have HG2:=Lib.hid (grown_two HG1.out hg2)
   clear hb2 hg2
   go_wp2
   go_ret2
   rw[←HW.out]at HIN ⊢
   exact ReadQ.ok (.num _ HIN.out) HB2.out HG2.out
 ·rw[he]
  have HC:=Lib.hid (fun w hB=>rtext_any B t HTB.out w hB)
  obtain⟨r,hr⟩:∃r,textR t=r:=⟨_,rfl⟩
  rw[hr]at HC ⊢
  clear he hg hgm ih hr
  go_enter Tryz.func77,Tryz.ntmps77
  go_wp2_with (go_at_call 114;fail)
  refine HT.out.mono ?_
  rintro e w1 ⟨rfl,hb1,hg1⟩
  have HB1:=Lib.hid hb1
  have HG1:=Lib.hid hg1
  clear hb1 hg1
  go_wp2_with (go_at_call 116;fail)
  refine(HC.out _ HB1.out).mono ?_
  intro e w2 hrq
  have HQ:=Lib.hid (hrq.past HG1.out)
  rcases hrq with⟨a,t',v,rfl,rfl,_,_,_⟩ | ⟨rfl,v,s,rfl,_,_⟩
  ·go_wp2
   go_ret2
   exact HQ.out
  ·go_wp2
   go_ret2
   exact HQ.out
 ·rw[he]
  clear he hg hgm ih
  go_enter Tryz.func77,Tryz.ntmps77
  go_wp2_with (go_at_call 114;fail)
  refine HT.out.mono ?_
  rintro e w1 ⟨rfl,hb1,hg1⟩
  have HB1:=Lib.hid hb1
  have HG1:=Lib.hid hg1
  clear hb1 hg1
  go_wp2
  go_ret2
  exact ReadQ.ok (.bool true) HB1.out HG1.out
 ·rw[he]
  clear he hg hgm ih
  go_enter Tryz.func77,Tryz.ntmps77
  go_wp2_with (go_at_call 114;fail)
  refine HT.out.mono ?_
  rintro e w1 ⟨rfl,hb1,hg1⟩
  have HB1:=Lib.hid hb1
  have HG1:=Lib.hid hg1
  clear hb1 hg1
  go_wp2
  go_ret2
  exact ReadQ.ok (.bool false) HB1.out HG1.out
 ·rw[he]
  have HC:Hid (∀w,Box w B (mkS t)→Calls Tryz.prog 117 #[.func (.func 114) #[] #[.pointer (some ⟨B,0,none⟩)],.int .i64 (z+1)] w (ReadQ B (listR g t) w)):=Lib.hid fun w hB=>by
   have bad:listR g t=none→(t=[]∨8<z+1)→Calls Tryz.prog 117 #[.func (.func 114) #[] #[.pointer (some ⟨B,0,none⟩)],.int .i64 (z+1)] w (ReadQ B (listR g t) w):=fun h1 h2=>by
    rw[h1]
    exact(rlist_bad B t HTB.out (z+1) h2 w hB).mono fun e w' ⟨v,s,he,h3,h4⟩=>Or.inr ⟨rfl,v,s,he,h3,h4⟩
   rcases hgm with⟨rfl,hm0⟩ | ⟨k,hk,rfl⟩
   ·exact bad rfl (Or.inr (by omega))
   ·cases t with
    |nil=>exact bad rfl (Or.inl rfl)
    |cons n t=>exact rlist_any k (by omega) (ih k hk) B n t HTB.out (z+1) (by omega) w hB
  obtain⟨r,hr⟩:∃r,listR g t=r:=⟨_,rfl⟩
  rw[hr]at HC ⊢
  clear he hg hgm ih hr
  have hz1 : -1000≤z:=by omega
  have hz2:z≤1000:=by omega
  clear hz
  go_enter Tryz.func77,Tryz.ntmps77
  go_wp2_with (go_at_call 114;fail)
  refine HT.out.mono ?_
  rintro e w1 ⟨rfl,hb1,hg1⟩
  have HB1:=Lib.hid hb1
  have HG1:=Lib.hid hg1
  clear hb1 hg1
  go_wp2_with (go_at_call 117;fail)
  refine(HC.out _ HB1.out).mono ?_
  intro e w2 hrq
  have HQ:=Lib.hid (hrq.past HG1.out)
  rcases hrq with⟨a,t',v,rfl,rfl,_,_,_⟩ | ⟨rfl,v,s,rfl,_,_⟩
  ·go_wp2
   go_ret2
   exact HQ.out
  ·go_wp2
   go_ret2
   exact HQ.out
 ·rw[he]
  have d1:((c:Int) == 105)=false:=by simp;omega
  have d2:((c:Int) == 115)=false:=by simp;omega
  have d3:((c:Int) == 121)=false:=by simp;omega
  have d4:((c:Int) == 110)=false:=by simp;omega
  have d5:((c:Int) == 108)=false:=by simp;omega
  clear he hg hgm ih n1 n2 n3 n4 n5
  go_enter Tryz.func77,Tryz.ntmps77
  go_wp2_with (go_at_call 114;fail)
  refine HT.out.mono ?_
  rintro e w1 ⟨rfl,hb1,hg1⟩
  have HB1:=Lib.hid hb1
  have HG1:=Lib.hid hg1
  clear hb1 hg1
  go_wp2
  go_ret2
  exact ReadQ.no HB1.out HG1.out
theorem read_any:∀m,m≤8→ReadsB m
 |0,_=>fun t B w z hb hz hB=>by
  cases t with
  |nil=>exact read_none B z w hB
  |cons c t=>exact read_some 0 (by omega) (fun k hk=>by omega) c t B w z hb hz hB
 |m+1,hm=>fun t B w z hb hz hB=>by
  cases t with
  |nil=>exact read_none B z w hB
  |cons c t =>
   have ih:=read_any m (by omega)
   refine read_some (m+1) hm (fun k hk=>?_) c t B w z hb hz hB
   obtain rfl:m=k:=by omega
   exact ih
end Go.Proofs.YtlogjpmdfimgdaaGreatDoor
namespace Go.Own
def pa(t:List Nat):Option A:=match rd 8 t with
 |some (a,[])=>some a
 |_=>none
theorem pa_pr{a:A}(h:er a 0=0)(ho:okA a):pa (pr a)=some a:=by
 have h1:=rd_pr a 0 (by omega) h ho []
 rw[List.append_nil]at h1
 rw[pa,h1]
theorem pa_was{t:List Nat}(hb:∀c∈t,c<256){a:A}(h:pa t=some a):t=pr a∧er a 0=0∧okA a:=by
 unfold pa at h
 split at h
 ·rename_i b hb2
  cases h
  have hw:=pr_rd 8 (by omega) t hb a [] hb2
  exact⟨by simpa using hw.text,hw.fine,hw.ok⟩
 ·cases h
end Go.Own
namespace Go.Proofs.YtlogjpmdfimgdaaGreatDoor
open Go.RowKit Go.Own
def ParseQ(r:Option A)(w:World)(e:Ending)(w':World):Prop :=
 (∃a v,r=some a∧e=.returned (.tuple #[v,.int .i64 0])∧AAt w' (fun b=>w.heap.size≤b) v a∧Below w.heap.size w w')∨(r=none∧e=.returned (.tuple #[.nilIface,.int .i64 2])∧Below w.heap.size w w')
theorem below_but{w w1:World}{o:Obj}(h:(w.alloc o).grownBy w1 (some w.heap.size)):Below w.heap.size w w1:=by
 have hs:=h.size
 simp at hs
 refine⟨h.os,h.tape,h.output,by omega,fun k hk=>?_⟩
 rw[h.block k (by simp;omega) (fun e=>by have:=Option.some.inj e;omega)]
 exact((Below.refl w.heap.size w).alloc (Nat.le_refl _) o).block k hk
theorem below_box{w w1 w2:World}{B:Nat}(h:Below B w w1)(hg:w1.grownBy w2 (some B))(hB:B≤w1.heap.size):Below B w w2 :=
 h.grown hg hB (fun k hk=>by have:=Option.some.inj hk;omega)
set_option maxRecDepth 100000 in
set_option maxHeartbeats 1000000 in
theorem parse_any(t:List Nat)(hb:∀c∈t,c<256)(w:World):Calls Tryz.prog 53 #[.string (mkS t)] w (ParseQ (pa t) w):=by
 have HR:=Lib.hid (read_any 8 (by omega) t w.heap.size (w.alloc (.cells #[.string (mkS t)] 9)) 0 hb (by omega) (box_new w _))
 have HPA:Hid (pa t=match rd 8 t with
  |some (a,[])=>some a
  |_=>none):=Lib.hid rfl
 obtain⟨p,hp⟩:∃p,pa t=p:=⟨_,rfl⟩
 obtain⟨r,hr⟩:∃r,rd 8 t=r:=⟨_,rfl⟩
 rw[hr]at HR HPA
 rw[hp]at HPA ⊢
 obtain⟨q,hq⟩:∃q,mkS t=q:=⟨_,rfl⟩
 rw[hq]at HR ⊢
 clear hb hp hr hq
 go_enter Tryz.func53,Tryz.ntmps53
 go_wp2_with fail
 refine(taker_any q w).mono ?_
 rintro e w' ⟨rfl,rfl⟩
 go_wp2_with (go_at_call 77;fail)
 refine HR.out.mono ?_
 intro e w2 hrq
 rcases hrq with⟨a,t',v,rfl,rfl,hv,hb2,hg2⟩ | ⟨rfl,v,s,rfl,hb2,hg2⟩
 ·have HV:Hid (AAt w2 (fun b=>w.heap.size≤b) v a):=Lib.hid (hv.keep (fun b h _=>by simp at h;omega) (Nat.le_refl _) (fun _ _ _=>rfl))
  have hbl2:=below_but hg2
  have hz2:w.heap.size≤w2.heap.size:=hbl2.size
  cases t' with
  |nil =>
   have HT:=Lib.hid (take_no w.heap.size 1 (mkS []) (by rw[mkS_size];exact Nat.zero_lt_one) w2 hb2)
   have HP:Hid (p=some a):=HPA
   have HBL:=Lib.hid hbl2
   clear hv hb2 hg2 hbl2
   go_wp2_with (go_at_call 114;fail)
   refine HT.out.mono ?_
   rintro e w3 ⟨rfl,rfl⟩
   go_wp2
   go_ret2
   exact Or.inl ⟨a,v,HP.out,rfl,HV.out,HBL.out⟩
  |cons c t' =>
   have HT:=Lib.hid (take_ok w.heap.size 1 (c :: t') (by simp) w2 hb2)
   have HP:Hid (p=none):=HPA
   have HBL:=Lib.hid hbl2
   clear hv hb2 hg2 hbl2
   go_wp2_with (go_at_call 114;fail)
   refine HT.out.mono ?_
   rintro e w3 ⟨rfl,hb3,hg3⟩
   have HB3:=Lib.hid (below_box HBL.out hg3 hz2)
   clear hb3 hg3
   go_wp2
   go_ret2
   exact Or.inr ⟨HP.out,rfl,HB3.out⟩
 ·have HP:Hid (p=none):=HPA
  have HBL:=Lib.hid (below_but hg2)
  have hz2:w.heap.size≤w2.heap.size:=HBL.out.size
  by_cases h1:s.size<1
  ·have HT:=Lib.hid (take_no w.heap.size 1 s h1 w2 hb2)
   clear hb2 hg2 h1
   go_wp2_with (go_at_call 114;fail)
   refine HT.out.mono ?_
   rintro e w3 ⟨rfl,rfl⟩
   go_wp2
   go_ret2
   exact Or.inr ⟨HP.out,rfl,HBL.out⟩
  ·have HT:=Lib.hid (take_yes w.heap.size 1 s (by omega) w2 hb2)
   clear hb2 hg2 h1
   go_wp2_with (go_at_call 114;fail)
   refine HT.out.mono ?_
   rintro e w3 ⟨rfl,hb3,hg3⟩
   have HB3:=Lib.hid (below_box HBL.out hg3 hz2)
   clear hb3 hg3
   go_wp2
   go_ret2
   exact Or.inr ⟨HP.out,rfl,HB3.out⟩
end Go.Proofs.YtlogjpmdfimgdaaGreatDoor
namespace Go.Proofs.YtlogjpmdfimgdaaGreatDoor
open Go.RowKit Go.Own
def NewB(B:Nat)(l:List Nat)(w:World)(e:Ending)(w':World):Prop:=∃v',e=.returned v'∧OwnB w' B v' l∧Below B w w'
theorem be_cell(N q:Nat):((N:Int)/2 ^ (8*q)%256)=((N/256 ^ q%256:Nat):Int):=by
 have e:256 ^ q=2 ^ (8*q):=by rw[Nat.pow_mul]
 rw[e]
 simp
set_option maxRecDepth 100000 in
set_option maxHeartbeats 1000000 in
theorem high_any(k N:Nat)(hk:k≤8)(hN:N<18446744073709551616)(l:List Nat)(hl:l.length+k≤140737488355328)(v:Value)(B:Nat)(w:World)(hB:B≤w.heap.size)(hv:OwnB w B v l) :
  Calls Tryz.prog 92 #[v,.int .u64 (N:Int),.int .i64 (k:Int)] w (NewB B (l++be k N) w):=by
 have HV:=Lib.hid hv
 have HNN:=Lib.hid hN
 clear hv hN
 go_enter Tryz.func92,Tryz.ntmps92
 go_wp2
 go_loopw [0,7] (fun o i wr=>∃(z:Int) (m:Nat) (L:List Nat),m≤k∧i=.int .i64 z∧z+1=m∧Hid (OwnB wr B o L)∧Hid (Below B w wr)∧Hid (L++be m N=l++be k N)∧L.length+m≤140737488355328) (fun _ i _=>(intOf i+1).toNat)
 case atStart=>exact⟨_,k,l,Nat.le_refl _,rfl,by omega,HV,Lib.hid (Below.refl _ _),Lib.hid rfl,hl⟩
 case round =>
  obtain⟨z,m,L,hm,rfl,hz,HO,HB,HE,hL⟩:=hrel
  have hBr:B≤wr.heap.size:=Nat.le_trans hB HB.out.size
  rcases Nat.eq_zero_or_pos m with rfl | hpos
  ·obtain rfl:z = -1:=by omega
   clear hz
   have HF:Hid (OwnB wr B u0 (l++be k N)):=Lib.hid (by rw[←HE.out];simpa [be]using HO.out)
   go_wp2
   go_ret
   exact⟨_,rfl,HF.out,HB.out⟩
  ·obtain⟨q,rfl⟩:∃q,m=q+1:=⟨m-1,by omega⟩
   obtain rfl:z=(q:Int):=by omega
   clear hz
   have HE2:Hid ((L++[N/256 ^ q%256])++be q N=l++be k N):=Lib.hid (by rw[←HE.out];simp[be])
   go_wp2_with (at_builtin;refine wpList_byte rfl (.tmp 14) (.tmp 20) rfl wr B _ L (N/256 ^ q%256) (by rw[be_cell]) rfl HO.out rfl (by omega) hBr ?_)
   intro v1 w1 hv1 hb1
   have HO1:=Lib.hid hv1
   have HB1:=Lib.hid (HB.out.trans hb1)
   clear hv1 hb1
   go_wp2
   go_roundw
   case rel=>exact⟨_,q,_,by omega,rfl,by omega,HO1,HB1,HE2,by simp;omega⟩
   case measure=>simp[intOf]
end Go.Proofs.YtlogjpmdfimgdaaGreatDoor
namespace Go.Proofs.YtlogjpmdfimgdaaGreatDoor
open Go.RowKit Go.Own
def PrQ(B:Nat)(c:Int)(L:List Nat)(w:World)(e:Ending)(w':World):Prop :=
 (c=0∧∃v',e=.returned (.tuple #[v',.int .i64 0])∧OwnB w' B v' L∧Below B w w')∨(c≠0∧e=.returned (.tuple #[.slice none 0 0,.int .i64 c])∧Below B w w')
theorem PrQ.ok{B:Nat}{L:List Nat}{w w':World}{v':Value}(h1:OwnB w' B v' L)(h2:Below B w w'):PrQ B 0 L w (.returned (.tuple #[v',.int .i64 0])) w':=Or.inl ⟨rfl,v',rfl,h1,h2⟩
theorem PrQ.bad{B:Nat}{c:Int}{L:List Nat}{w w':World}(hc:c≠0)(h2:Below B w w'):PrQ B c L w (.returned (.tuple #[.slice none 0 0,.int .i64 c])) w':=Or.inr ⟨hc,rfl,h2⟩
set_option maxRecDepth 100000 in
set_option maxHeartbeats 1000000 in
theorem ptext_any(s:ByteArray)(hs:s.size≤9223372036854775807)(l:List Nat)(hl:l.length+sz (.str s) 0≤140737488355328)(v:Value)(B:Nat)(w:World)(hB:B≤w.heap.size)(hv:OwnB w B v l) :
  Calls Tryz.prog 93 #[v,.string s] w (PrQ B (er (.str s) 0) (l++pr (.str s)) w):=by
 by_cases h:65535<s.size
 ·have HE:Hid (er (.str s) 0=3):=Lib.hid (by rw[er,if_pos h])
  have d1:decide ((65535:Int)<(s.size:Int))=true:=by simp;omega
  clear hv
  go_enter Tryz.func93,Tryz.ntmps93
  go_wp2
  go_ret2
  rw[HE.out]
  exact PrQ.bad (by decide) (Below.refl _ _)
 ·have HE:Hid (er (.str s) 0=0):=Lib.hid (by rw[er,if_neg h])
  rw[sz,if_neg h]at hl
  have d1:decide ((65535:Int)<(s.size:Int))=false:=by simp;omega
  have HV:=Lib.hid hv
  have hs2:s.size≤65535:=by omega
  have HH:=Lib.hid (fun (L:List Nat) (hL:L.length+2≤140737488355328) v B w hB hv=>high_any 2 s.size (by omega) (by omega) L hL v B w hB hv)
  clear hv h
  go_enter Tryz.func93,Tryz.ntmps93
  go_wp2_with (at_builtin;refine wpList_byte rfl (.tmp 9) (.tmp 10) rfl w B _ l 115 rfl rfl HV.out rfl (by omega) hB ?_)
  intro v1 w1 hv1 hb1
  have HO1:=Lib.hid hv1
  have HB1:=Lib.hid hb1
  clear hv1 hb1
  go_wp2_with (go_at_call 92;fail)
  go_goals
  refine(HH.out _ (by simp;omega) _ _ _ (Nat.le_trans hB HB1.out.size) HO1.out).mono ?_
  rintro e w2 ⟨v2,rfl,hv2,hb2⟩
  have HO2:=Lib.hid hv2
  have HB2:=Lib.hid (HB1.out.trans hb2)
  have hl2:(l++[115]++be 2 s.size).length=l.length+3:=by simp[be_length]
  have HL2:=Lib.hid hl2
  have hB2:=Nat.le_trans hB HB2.out.size
  clear hv2 hb2 hl2
  go_wp2_with (at_builtin;refine wpList_text rfl (.tmp 16) (.tmp 17) rfl B _ _ s rfl HO2.out rfl (by rw[HL2.out];omega) hB2 ?_)
  intro v3 w3 hv3 hb3
  have HO3:Hid (OwnB w3 B v3 (l++pr (.str s))):=Lib.hid (by simpa [pr]using hv3)
  have HB3:=Lib.hid (HB2.out.trans hb3)
  clear hv3 hb3
  go_wp2
  go_ret2
  rw[HE.out]
  exact PrQ.ok HO3.out HB3.out
end Go.Proofs.YtlogjpmdfimgdaaGreatDoor
namespace Go.Proofs.YtlogjpmdfimgdaaGreatDoor
open Go.RowKit
@[go_sem ↓] theorem ta_3_3(u:Value)(w:World):(Instr.typeAssert (.iface 3 u) 20 3 true).run Tryz.prog w=.ok (.tuple #[u,.bool true]) w:=by kernel_rfl
@[go_sem ↓] theorem ta_9_3(u:Value)(w:World):(Instr.typeAssert (.iface 9 u) 20 3 true).run Tryz.prog w=.ok (.tuple #[.int .i64 0,.bool false]) w:=by kernel_rfl
@[go_sem ↓] theorem ta_4_3(u:Value)(w:World):(Instr.typeAssert (.iface 4 u) 20 3 true).run Tryz.prog w=.ok (.tuple #[.int .i64 0,.bool false]) w:=by kernel_rfl
@[go_sem ↓] theorem ta_48_3(u:Value)(w:World):(Instr.typeAssert (.iface 67 u) 20 3 true).run Tryz.prog w=.ok (.tuple #[.int .i64 0,.bool false]) w:=by kernel_rfl
@[go_sem ↓] theorem ta_54_3(u:Value)(w:World):(Instr.typeAssert (.iface 68 u) 20 3 true).run Tryz.prog w=.ok (.tuple #[.int .i64 0,.bool false]) w:=by kernel_rfl
@[go_sem ↓] theorem ta_nil_3(w:World):(Instr.typeAssert .nilIface 20 3 true).run Tryz.prog w=.ok (.tuple #[.int .i64 0,.bool false]) w:=by kernel_rfl
@[go_sem ↓] theorem ta_3_9(u:Value)(w:World):(Instr.typeAssert (.iface 3 u) 20 9 true).run Tryz.prog w=.ok (.tuple #[.string { data:=#[] },.bool false]) w:=by kernel_rfl
@[go_sem ↓] theorem ta_9_9(u:Value)(w:World):(Instr.typeAssert (.iface 9 u) 20 9 true).run Tryz.prog w=.ok (.tuple #[u,.bool true]) w:=by kernel_rfl
@[go_sem ↓] theorem ta_4_9(u:Value)(w:World):(Instr.typeAssert (.iface 4 u) 20 9 true).run Tryz.prog w=.ok (.tuple #[.string { data:=#[] },.bool false]) w:=by kernel_rfl
@[go_sem ↓] theorem ta_48_9(u:Value)(w:World):(Instr.typeAssert (.iface 67 u) 20 9 true).run Tryz.prog w=.ok (.tuple #[.string { data:=#[] },.bool false]) w:=by kernel_rfl
@[go_sem ↓] theorem ta_54_9(u:Value)(w:World):(Instr.typeAssert (.iface 68 u) 20 9 true).run Tryz.prog w=.ok (.tuple #[.string { data:=#[] },.bool false]) w:=by kernel_rfl
@[go_sem ↓] theorem ta_nil_9(w:World):(Instr.typeAssert .nilIface 20 9 true).run Tryz.prog w=.ok (.tuple #[.string { data:=#[] },.bool false]) w:=by kernel_rfl
@[go_sem ↓] theorem ta_3_4(u:Value)(w:World):(Instr.typeAssert (.iface 3 u) 20 4 true).run Tryz.prog w=.ok (.tuple #[.bool false,.bool false]) w:=by kernel_rfl
@[go_sem ↓] theorem ta_9_4(u:Value)(w:World):(Instr.typeAssert (.iface 9 u) 20 4 true).run Tryz.prog w=.ok (.tuple #[.bool false,.bool false]) w:=by kernel_rfl
@[go_sem ↓] theorem ta_4_4(u:Value)(w:World):(Instr.typeAssert (.iface 4 u) 20 4 true).run Tryz.prog w=.ok (.tuple #[u,.bool true]) w:=by kernel_rfl
@[go_sem ↓] theorem ta_48_4(u:Value)(w:World):(Instr.typeAssert (.iface 67 u) 20 4 true).run Tryz.prog w=.ok (.tuple #[.bool false,.bool false]) w:=by kernel_rfl
@[go_sem ↓] theorem ta_54_4(u:Value)(w:World):(Instr.typeAssert (.iface 68 u) 20 4 true).run Tryz.prog w=.ok (.tuple #[.bool false,.bool false]) w:=by kernel_rfl
@[go_sem ↓] theorem ta_nil_4(w:World):(Instr.typeAssert .nilIface 20 4 true).run Tryz.prog w=.ok (.tuple #[.bool false,.bool false]) w:=by kernel_rfl
@[go_sem ↓] theorem ta_3_48(u:Value)(w:World):(Instr.typeAssert (.iface 3 u) 20 67 true).run Tryz.prog w=.ok (.tuple #[.slice none 0 0,.bool false]) w:=by kernel_rfl
@[go_sem ↓] theorem ta_9_48(u:Value)(w:World):(Instr.typeAssert (.iface 9 u) 20 67 true).run Tryz.prog w=.ok (.tuple #[.slice none 0 0,.bool false]) w:=by kernel_rfl
@[go_sem ↓] theorem ta_4_48(u:Value)(w:World):(Instr.typeAssert (.iface 4 u) 20 67 true).run Tryz.prog w=.ok (.tuple #[.slice none 0 0,.bool false]) w:=by kernel_rfl
@[go_sem ↓] theorem ta_48_48(u:Value)(w:World):(Instr.typeAssert (.iface 67 u) 20 67 true).run Tryz.prog w=.ok (.tuple #[u,.bool true]) w:=by kernel_rfl
@[go_sem ↓] theorem ta_54_48(u:Value)(w:World):(Instr.typeAssert (.iface 68 u) 20 67 true).run Tryz.prog w=.ok (.tuple #[.slice none 0 0,.bool false]) w:=by kernel_rfl
@[go_sem ↓] theorem ta_nil_48(w:World):(Instr.typeAssert .nilIface 20 67 true).run Tryz.prog w=.ok (.tuple #[.slice none 0 0,.bool false]) w:=by kernel_rfl
end Go.Proofs.YtlogjpmdfimgdaaGreatDoor
namespace Go.Proofs.YtlogjpmdfimgdaaGreatDoor
open Go.RowKit Go.Own
structure PartsA(w:World)(S:Nat→Prop)(v:Value)(l:List A)(p:Option Addr)(cap:Nat):Prop where
 eq:v=.iface 67 (.slice p l.length cap)
 hle:l.length≤9223372036854775807
 sub:∀(j:Nat) (x:A),l[j]?=some x→∃b o u,p=some ⟨b,o,none⟩∧S b∧b<w.heap.size∧w.cell? ⟨b,o+j,none⟩=some u∧AAt w S u x
theorem AAt.parts{w:World}{S:Nat→Prop}{v:Value}{l:List A}(h:AAt w S v (.list l)):∃p cap,PartsA w S v l p cap:=by
 cases h with
 |nil=>exact⟨Option.none,0,rfl,by simp,fun j x hx=>by simp at hx⟩
 |list b o n cap _ U hn hS hb hle hm hc ha =>
  subst hn
  exact⟨some ⟨b,o,Option.none⟩,cap,rfl,by omega,fun j x hx=>⟨b,o,U j,rfl,hS,hb,hc j x hx,ha j x hx⟩⟩
def PrintsB(a:A):Prop:=∀(d:Nat) (v vo:Value) (l:List Nat) (B:Nat) (w:World),d≤8→B≤w.heap.size→HasB w B v a→OwnB w B vo l→l.length+sz a d≤140737488355328 →
 Calls Tryz.prog 67 #[vo,v,.int .i64 (d:Int)] w (PrQ B (er a d) (l++pr a) w)
theorem prs_snoc{l:List A}{j:Nat}{x:A}(h:l[j]?=some x):prs (l.take (j+1))=prs (l.take j)++pr x:=by
 rw[List.take_add_one,h,prs_app];simp[prs]
theorem szs_le{l:List A}{j:Nat}{x:A}(h:l[j]?=some x)(d:Nat):szs (l.take j) d+sz x d≤szs l d:=by
 have e:szs (l.take (j+1)) d=szs (l.take j) d+sz x d:=by
  rw[List.take_add_one,h,szs_app];simp[szs]
 have e2:szs l d=szs (l.take (j+1)) d+szs (l.drop (j+1)) d:=by rw[←szs_app,List.take_append_drop]
 omega
theorem ers_snoc{l:List A}{j:Nat}{x:A}{d:Nat}(h:l[j]?=some x)(h0:ers (l.take j) d=0)(hx:er x d=0):ers (l.take (j+1)) d=0:=by
 rw[List.take_add_one,h,ers_app_ok h0]
 simp[ers,hx]
theorem ers_stop{l:List A}{j:Nat}{x:A}{d:Nat}(h:l[j]?=some x)(h0:ers (l.take j) d=0)(hx:er x d≠0):ers l d=er x d:=by
 have hj:=(List.getElem?_eq_some_iff.1 h).1
 have hx2:=(List.getElem?_eq_some_iff.1 h).2
 have e:l.take j++x :: l.drop (j+1)=l:=by
  rw[←hx2,List.getElem_cons_drop,List.take_append_drop]
 rw[←e,ers_app_ok h0,ers,if_neg hx]
theorem prs_len{l:List A}{d:Nat}(h:ers l d=0):(prs l).length=szs l d:=by
 rw[prs_map,szs_map,List.length_flatMap]
 congr 1
 exact List.map_congr_left fun x hx=>pr_sz x d ((ers_zero l d).1 h x hx)
set_option maxRecDepth 100000 in
set_option maxHeartbeats 1000000 in
theorem plist_any(xs:List A)(ih:∀x∈xs,PrintsB x)(d:Nat)(p:Option Addr)(n c:Nat)(vo:Value)(l:List Nat)(B:Nat)(w:World)(hd:d≤8)(hB:B≤w.heap.size)(hn:xs.length=n)(hv:HasB w B (.iface 67 (.slice p n c)) (.list xs))(ho:OwnB w B vo l)
  (hl:l.length+sz (.list xs) d≤140737488355328):Calls Tryz.prog 94 #[vo,.slice p n c,.int .i64 ((d:Int)+1)] w (PrQ B (er (.list xs) d) (l++pr (.list xs)) w):=by
 obtain⟨p',c',hp⟩:=AAt.parts hv
 obtain⟨heq,hle,hsub⟩:=hp
 simp only[Value.iface.injEq,Value.slice.injEq,true_and]at heq
 obtain⟨rfl,hnn,rfl⟩:=heq
 clear hnn
 rw[hn]at hle
 have hcs:(255<n)∨(n≤255∧8≤d)∨(n≤255∧d<8):=by omega
 rcases hcs with h | ⟨h,h2⟩ | ⟨h,h2⟩
 ·have HE:Hid (er (.list xs) d=3):=Lib.hid (by rw[er,if_pos (by omega)])
  have d1:decide ((255:Int)<(n:Int))=true:=by simp;omega
  clear hv ho hsub ih hn
  go_enter Tryz.func94,Tryz.ntmps94
  go_wp2
  go_ret2
  rw[HE.out]
  exact PrQ.bad (by decide) (Below.refl _ _)
 ·have HE:Hid (er (.list xs) d=3):=Lib.hid (by rw[er,if_pos (by omega)])
  have d1:decide ((255:Int)<(n:Int))=false:=by simp;omega
  have d2:decide ((8:Int)<(d:Int)+1)=true:=by simp;omega
  clear hv ho hsub ih hn
  go_enter Tryz.func94,Tryz.ntmps94
  go_wp2
  go_ret2
  rw[HE.out]
  exact PrQ.bad (by decide) (Below.refl _ _)
 ·have hc:¬(255<xs.length∨8≤d):=by omega
  have HE:Hid (er (.list xs) d=ers xs (d+1)):=Lib.hid (by rw[er,if_neg hc])
  rw[sz,if_neg hc]at hl
  have d1:decide ((255:Int)<(n:Int))=false:=by simp;omega
  have d2:decide ((8:Int)<(d:Int)+1)=false:=by simp;omega
  have HN:=Lib.hid hn
  have HO:=Lib.hid ho
  have HSUB:=Lib.hid hsub
  have HI:=Lib.hid ih
  have HH:=Lib.hid (fun (L:List Nat) (hL:L.length+1≤140737488355328) v B w hB hv=>high_any 1 n (by omega) (by omega) L hL v B w hB hv)
  clear hv ho hsub ih hn hc
  go_enter Tryz.func94,Tryz.ntmps94
  go_wp2_with (at_builtin;refine wpList_byte rfl (.tmp 18) (.tmp 19) rfl w B _ l 108 rfl rfl HO.out rfl (by omega) hB ?_)
  intro v1 w1 hv1 hb1
  have HO1:=Lib.hid hv1
  have HB1:=Lib.hid hb1
  clear hv1 hb1
  go_wp2_with (go_at_call 92;fail)
  refine(HH.out _ (by simp;omega) _ _ _ (Nat.le_trans hB HB1.out.size) HO1.out).mono ?_
  rintro e w2 ⟨v2,rfl,hv2,hb2⟩
  have HO2:=Lib.hid hv2
  have HB2:=Lib.hid (HB1.out.trans hb2)
  clear hv2 hb2
  go_wp2
  go_loopw [0,27] (fun o i wr=>∃j:Nat,j≤n∧i=.int .i64 (j:Int)∧Hid (OwnB wr B o (l++[108]++be 1 n++prs (xs.take j)))∧Hid (Below B w wr)∧Hid (ers (xs.take j) (d+1)=0)) (fun _ i _=>n-(intOf i).toNat)
  case atStart=>exact⟨0,Nat.zero_le _,rfl,Lib.hid (by simpa [prs]using HO2.out),HB2,Lib.hid (by simp[ers])⟩
  case round =>
   obtain⟨j,hj,rfl,HOJ,HBJ,HEJ⟩:=hrel
   have hBr:B≤wr.heap.size:=Nat.le_trans hB HBJ.out.size
   by_cases hlt:j<n
   ·obtain⟨x,hx⟩:∃x,xs[j]?=some x:=⟨_,List.getElem?_eq_getElem (by rw[HN.out];exact hlt)⟩
    obtain⟨b,o,t,rfl,hbB,hbw,c0,hxa⟩:=HSUB.out j x hx
    have c1:wr.cell? ⟨b,o+j,none⟩=some t:=by rw[HBJ.out.cell (p:=⟨b,o+j,none⟩) hbB];exact c0
    have hlen:(l++[108]++be 1 n++prs (xs.take j)).length=l.length+2+szs (xs.take j) (d+1):=by
     rw[List.length_append,prs_len HEJ.out];simp[be_length]
    have hle2:=szs_le hx (d+1)
    have HC:=Lib.hid (HI.out x (List.mem_of_getElem? hx) (d+1) t u0 _ B wr (by omega) hBr (HasB.below hxa HBJ.out) HOJ.out (by rw[hlen];omega))
    have e1:(((d+1:Nat)):Int)=(d:Int)+1:=by omega
    rw[e1]at HC
    have HPS:=Lib.hid (prs_snoc hx)
    by_cases hex:er x (d+1)=0
    ·have HES:=Lib.hid (ers_snoc hx HEJ.out hex)
     rw[hex]at HC
     clear hx c0 hxa hlen hle2 e1 hex
     go_wp2_with (go_at_call 67;fail)
     refine HC.out.mono ?_
     intro e w3 hpq
     rcases hpq with⟨_,v3,rfl,hv3,hb3⟩ | ⟨hne,_⟩
     ·have HO3:Hid (OwnB w3 B v3 (l++[108]++be 1 n++prs (xs.take (j+1)))):=Lib.hid (by rw[HPS.out,←List.append_assoc];exact hv3)
      have HB3:=Lib.hid (HBJ.out.trans hb3)
      clear hv3 hb3
      go_wp2
      go_roundw
      case rel=>exact⟨j+1,by omega,by go_num,HO3,HB3,HES⟩
      case measure=>simp[intOf];omega
     ·exact absurd rfl hne
    ·have HST:=Lib.hid (ers_stop hx HEJ.out hex)
     obtain⟨z,hz⟩:∃z,er x (d+1)=z:=⟨_,rfl⟩
     rw[hz]at HC HST hex
     have hzb:(z == 0)=false:=by simpa using hex
     have hzb2:(z != 0)=true:=by simpa using hex
     have HZ:=Lib.hid hex
     clear hx c0 hxa hlen hle2 e1 hex hz
     go_wp2_with (go_at_call 67;fail)
     refine HC.out.mono ?_
     intro e w3 hpq
     rcases hpq with⟨h0,_⟩ | ⟨_,rfl,hb3⟩
     ·exact absurd h0 HZ.out
     ·have HB3:=Lib.hid (HBJ.out.trans hb3)
      clear hb3
      go_wp2
      go_ret2
      rw[HE.out,HST.out]
      exact PrQ.bad HZ.out HB3.out
   ·obtain rfl:j=n:=by omega
    have hfull:xs.take j=xs:=List.take_of_length_le (by rw[HN.out];exact Nat.le_refl _)
    have HO3:Hid (OwnB wr B u0 (l++pr (.list xs))):=Lib.hid (by
     have h:=HOJ.out
     rw[hfull]at h
     rw[pr,HN.out]
     simpa using h)
    have HE0:Hid (ers xs (d+1)=0):=Lib.hid (by have h:=HEJ.out;rwa [hfull]at h)
    clear hfull
    go_wp2
    go_ret2
    rw[HE.out,HE0.out]
    exact PrQ.ok HO3.out HBJ.out
theorem u64_wrap(n:Int):IntKind.u64.wrap n=((u64 n:Nat):Int):=by
 unfold u64 two64
 simp[IntKind.wrap,IntKind.bits,IntKind.signed]
 omega
set_option maxRecDepth 100000 in
set_option maxHeartbeats 1000000 in
theorem printed_any(a:A):PrintsB a:=by
 induction a using A.ind with
 |h1 n =>
  intro d v vo l B w hd hB hv ho hl
  cases hv
  rename_i hn
  rw[sz]at hl
  have HE:Hid (er (.num n) d=0):=Lib.hid rfl
  have HO:=Lib.hid ho
  have HU:=Lib.hid (u64_wrap n)
  clear ho hn
  go_enter Tryz.func67,Tryz.ntmps67
  go_wp2_with (at_builtin;refine wpList_byte rfl (.tmp 16) (.tmp 17) rfl w B _ l 105 rfl rfl HO.out rfl (by omega) hB ?_)
  intro v1 w1 hv1 hb1
  have HO1:=Lib.hid hv1
  have HB1:=Lib.hid hb1
  clear hv1 hb1
  have hlt:=u64_lt n
  unfold two64 at hlt
  have HC:=Lib.hid (high_any 8 (u64 n) (by omega) hlt (l++[105]) (by simp;omega) v1 B w1 (Nat.le_trans hB HB1.out.size) HO1.out)
  rw[←HU.out]at HC
  clear hlt
  go_wp2_with (go_at_call 92;fail)
  refine HC.out.mono ?_
  rintro e w2 ⟨v2,rfl,hv2,hb2⟩
  have HO2:Hid (OwnB w2 B v2 (l++pr (.num n))):=Lib.hid (by simpa [pr]using hv2)
  have HB2:=Lib.hid (HB1.out.trans hb2)
  clear hv2 hb2
  go_wp2
  go_ret2
  rw[HE.out]
  exact PrQ.ok HO2.out HB2.out
 |h2 s =>
  intro d v vo l B w hd hB hv ho hl
  cases hv
  rename_i hs
  have hl:l.length+sz (.str s) 0≤140737488355328:=by rw[sz]at hl ⊢;exact hl
  have HC:=Lib.hid (ptext_any s hs l hl vo B w hB ho)
  have HE:Hid (er (.str s) d=er (.str s) 0):=Lib.hid (by rw[er,er])
  obtain⟨z,hz⟩:∃z,er (.str s) 0=z:=⟨_,rfl⟩
  rw[hz]at HC HE
  clear ho hl hz
  go_enter Tryz.func67,Tryz.ntmps67
  go_wp2_with (go_at_call 93;fail)
  refine HC.out.mono ?_
  intro e w2 hpq
  rcases hpq with⟨rfl,v3,rfl,hv3,hb3⟩ | ⟨hne,rfl,hb3⟩
  ·have HO3:=Lib.hid hv3
   have HB3:=Lib.hid hb3
   clear hv3 hb3
   go_wp2
   go_ret2
   rw[HE.out]
   exact PrQ.ok HO3.out HB3.out
  ·have HN:=Lib.hid hne
   have HB3:=Lib.hid hb3
   clear hne hb3
   go_wp2
   go_ret2
   rw[HE.out]
   exact PrQ.bad HN.out HB3.out
 |h3 b =>
  intro d v vo l B w hd hB hv ho hl
  cases hv
  rw[sz]at hl
  have HE:Hid (er (.bool b) d=0):=Lib.hid rfl
  have HO:=Lib.hid ho
  clear ho
  cases b
  ·go_enter Tryz.func67,Tryz.ntmps67
   go_wp2_with (at_builtin;refine wpList_byte rfl (.tmp 37) (.tmp 38) rfl w B _ l 110 rfl rfl HO.out rfl (by omega) hB ?_)
   intro v1 w1 hv1 hb1
   have HO1:Hid (OwnB w1 B v1 (l++pr (.bool false))):=Lib.hid (by simpa [pr]using hv1)
   have HB1:=Lib.hid hb1
   clear hv1 hb1
   go_wp2
   go_ret2
   rw[HE.out]
   exact PrQ.ok HO1.out HB1.out
  ·go_enter Tryz.func67,Tryz.ntmps67
   go_wp2_with (at_builtin;refine wpList_byte rfl (.tmp 34) (.tmp 35) rfl w B _ l 121 rfl rfl HO.out rfl (by omega) hB ?_)
   intro v1 w1 hv1 hb1
   have HO1:Hid (OwnB w1 B v1 (l++pr (.bool true))):=Lib.hid (by simpa [pr]using hv1)
   have HB1:=Lib.hid hb1
   clear hv1 hb1
   go_wp2
   go_ret2
   rw[HE.out]
   exact PrQ.ok HO1.out HB1.out
 |h4 xs ih =>
  intro d v vo l B w hd hB hv ho hl
  obtain⟨p,c,hp⟩:=AAt.parts hv
  obtain⟨rfl,_,_⟩:=hp
  obtain⟨n,hn⟩:∃n,xs.length=n:=⟨_,rfl⟩
  rw[hn]at hv ⊢
  have HC:=Lib.hid (plist_any xs ih d p n c vo l B w hd hB hn hv ho hl)
  obtain⟨z,hz⟩:∃z,er (.list xs) d=z:=⟨_,rfl⟩
  obtain⟨t,ht⟩:∃t,l++pr (.list xs)=t:=⟨_,rfl⟩
  rw[hz,ht]at HC ⊢
  clear hv ho hl hz ht ih hn
  go_enter Tryz.func67,Tryz.ntmps67
  go_wp2_with (go_at_call 94;fail)
  refine HC.out.mono ?_
  intro e w2 hpq
  rcases hpq with⟨rfl,v3,rfl,hv3,hb3⟩ | ⟨hne,rfl,hb3⟩
  ·have HO3:=Lib.hid hv3
   have HB3:=Lib.hid hb3
   clear hv3 hb3
   go_wp2
   go_ret2
   exact PrQ.ok HO3.out HB3.out
  ·have HN:=Lib.hid hne
   have HB3:=Lib.hid hb3
   clear hne hb3
   go_wp2
   go_ret2
   exact PrQ.bad HN.out HB3.out
 |h5 =>
  intro d v vo l B w hd hB hv ho hl
  cases hv
  have HE:Hid (er .none d=9):=Lib.hid rfl
  clear ho hl
  go_enter Tryz.func67,Tryz.ntmps67
  go_wp2
  go_ret2
  rw[HE.out]
  exact PrQ.bad (by decide) (Below.refl _ _)
 |h6 =>
  intro d v vo l B w hd hB hv ho hl
  cases hv
  have HE:Hid (er .odd d=9):=Lib.hid rfl
  clear ho hl
  go_enter Tryz.func67,Tryz.ntmps67
  go_wp2
  go_ret2
  rw[HE.out]
  exact PrQ.bad (by decide) (Below.refl _ _)
def prt(a:A):ByteArray:=if er a 0=0 then mkS (pr a)else { data:=#[] }
def PrintQ(a:A)(w:World)(e:Ending)(w':World):Prop:=e=.returned (.tuple #[.string (prt a),.int .i64 (er a 0)])∧Below w.heap.size w w'
set_option maxRecDepth 100000 in
set_option maxHeartbeats 1000000 in
theorem print_any(a:A)(v:Value)(w:World)(hv:Has w v a)(hs:sz a 0≤140737488355328):Calls Tryz.prog 39 #[v] w (PrintQ a w):=by
 have HC:=Lib.hid (printed_any a 0 v (.slice none 0 0) [] w.heap.size w (by omega) (Nat.le_refl _) hv.low (OwnB.nil _ _) (by simpa using hs))
 have HP1:er a 0=0→prt a=mkS (pr a):=fun h=>by rw[prt,if_pos h]
 have HP2:er a 0≠0→prt a={ data:=#[] }:=fun h=>by rw[prt,if_neg h]
 have H1:=Lib.hid HP1
 have H2:=Lib.hid HP2
 unfold PrintQ
 obtain⟨z,hz⟩:∃z,er a 0=z:=⟨_,rfl⟩
 obtain⟨t,ht⟩:∃t,prt a=t:=⟨_,rfl⟩
 rw[hz]at HC H1 H2 ⊢
 rw[ht]at H1 H2 ⊢
 clear hv hs HP1 HP2 hz ht
 go_enter Tryz.func39,Tryz.ntmps39
 go_wp2_with (go_at_call 67;fail)
 refine HC.out.mono ?_
 intro e w2 hpq
 rcases hpq with⟨rfl,v3,rfl,hv3,hb3⟩ | ⟨hne,rfl,hb3⟩
 ·have hcv:=OwnB.str hv3
  have HB3:=Lib.hid hb3
  have HT:=H1.out rfl
  clear hv3 hb3 H2
  go_wp2
  go_ret2
  exact⟨by rw[HT];rfl,HB3.out⟩
 ·have HT:=H2.out hne
  have HB3:=Lib.hid hb3
  have hcv:=conv_nil w2
  clear hne hb3 H1
  go_wp2
  go_ret2
  exact⟨by rw[HT];rfl,HB3.out⟩
end Go.Proofs.YtlogjpmdfimgdaaGreatDoor
namespace Go.Own
theorem cm_list(l:List A)(i:Int)(r:List Int):cm (.list l) (i :: r)=if i<0∨(l.length:Int)≤i then (4,.none)else cm (l.getD i.toNat .none) r:=rfl
theorem cm_nil(a:A):cm a []=(0,a):=by cases a <;> rfl
theorem cm_other(a:A)(h:∀l,a≠.list l)(i:Int)(r:List Int):cm a (i :: r)=(9,.none):=by
 cases a with
 |list l=>exact absurd rfl (h l)
 |_=>rfl
end Go.Own
namespace Go.Proofs.YtlogjpmdfimgdaaGreatDoor
open Go.RowKit Go.Own
def Ints(w:World)(v:Value)(zs:List Int):Prop :=
 ∃p cap,v=.slice p zs.length cap∧zs.length≤9223372036854775807∧∀(j:Nat) (z:Int),zs[j]?=some z→In64 z∧∃b o,p=some ⟨b,o,none⟩∧b<w.heap.size∧w.cell? ⟨b,o+j,none⟩=some (.int .i64 z)
def ComeQ(q:Int×A)(w:World)(e:Ending)(w':World):Prop:=∃v',e=.returned (.tuple #[v',.int .i64 q.1])∧Has w v' q.2∧w=w'
theorem no_list{w:World}{v:Value}{a:A}(h:Has w v a)(hn:∀l,a≠.list l):(∃t u,v=.iface t u∧(t=3∨t=9∨t=4∨t=68))∨v=.nilIface:=by
 cases h with
 |num n _=>exact Or.inl ⟨_,_,rfl,by simp⟩
 |str s _=>exact Or.inl ⟨_,_,rfl,by simp⟩
 |bool b=>exact Or.inl ⟨_,_,rfl,by simp⟩
 |none=>exact Or.inr rfl
 |odd u=>exact Or.inl ⟨_,_,rfl,by simp⟩
 |nil=>exact absurd rfl (hn _)
 |list=>exact absurd rfl (hn _)
def ComeRel(w:World)(a:A)(zs:List Int)(n:Nat)(x i:Value):Prop:=∃(j:Nat) (b:A),j≤n∧i=.int .i64 (j:Int)∧Hid (Has w x b)∧Hid (cm a zs=cm b (zs.drop j))
set_option maxRecDepth 100000 in
set_option maxHeartbeats 1000000 in
theorem come_any(a:A)(zs:List Int)(v vz:Value)(w:World)(hv:Has w v a)(hz:Ints w vz zs):Calls Tryz.prog 91 #[v,vz] w (ComeQ (cm a zs) w):=by
 obtain⟨p,cap,rfl,hle,hcz⟩:=hz
 obtain⟨n,hn⟩:∃n,zs.length=n:=⟨_,rfl⟩
 rw[hn]at hle ⊢
 have HN:=Lib.hid hn
 have HV:=Lib.hid hv
 have HCZ:=Lib.hid hcz
 clear hn hv hcz
 go_enter Tryz.func91,Tryz.ntmps91
 go_wp2
 go_loop [0,12] (fun x i=>ComeRel w a zs n x i) (fun _ i=>n-(intOf i).toNat)
 case atStart=>exact⟨0,a,Nat.zero_le _,rfl,HV,Lib.hid (by simp)⟩
 case round =>
  obtain⟨j,b,hj,rfl,HB,HE⟩:=hrel
  by_cases hlt:j<n
  ·have hjz:j<zs.length:=by rw[HN.out];exact hlt
   obtain⟨z,hz⟩:∃z,zs[j]?=some z:=⟨_,List.getElem?_eq_getElem hjz⟩
   obtain⟨hin,g,o,rfl,hg,c0⟩:=HCZ.out j z hz
   have hdrop:zs.drop j=z :: zs.drop (j+1):=by
    rw[List.drop_eq_getElem_cons hjz]
    congr 1
    rw[List.getElem?_eq_getElem hjz]at hz
    exact Option.some.inj hz
   have HE1:Hid (cm a zs=cm b (z :: zs.drop (j+1))):=Lib.hid (by rw[HE.out,hdrop])
   unfold In64 two63 at hin
   obtain⟨hz1,hz2⟩:=hin
   clear hz hdrop hjz
   by_cases hb:∀l,b≠.list l
   ·have HE2:Hid (cm a zs=(9,.none)):=Lib.hid (by rw[HE1.out,cm_other b hb])
    have hsh:=no_list HB.out hb
    clear hb
    rcases hsh with⟨ty,u,rfl,rfl | rfl | rfl | rfl⟩ | rfl
    all_goals
     go_wp2
     go_ret2
     rw[HE2.out]
     exact⟨_,rfl,.none,rfl⟩
   ·obtain⟨l,rfl⟩:∃l,b=.list l:=by
     cases b with
     |list l=>exact⟨l,rfl⟩
     |_=>exact absurd (fun l h=>by cases h) hb
    clear hb
    obtain⟨p2,cap2,hp⟩:=AAt.parts HB.out
    obtain⟨rfl,hl63,hsub⟩:=hp
    obtain⟨m,hm⟩:∃m,l.length=m:=⟨_,rfl⟩
    have HM:=Lib.hid hm
    rw[hm]at hl63 HB ⊢
    rw[cm_list,hm]at HE1
    have HSUB:=Lib.hid hsub
    clear hm hsub
    have hcs:z<0∨(0≤z∧(m:Int)≤z)∨(0≤z∧z<(m:Int)):=by omega
    rcases hcs with h | ⟨h,h'⟩ | ⟨h,h'⟩
    ·have HE2:Hid (cm a zs=(4,.none)):=Lib.hid (by rw[HE1.out,if_pos (by omega)])
     have d1:decide (z<0)=true:=by simp[h]
     go_wp2
     go_ret2
     rw[HE2.out]
     exact⟨_,rfl,.none,rfl⟩
    ·have HE2:Hid (cm a zs=(4,.none)):=Lib.hid (by rw[HE1.out,if_pos (by omega)])
     have d1:decide (z<0)=false:=by simp[h]
     have d2:decide ((m:Int)≤z)=true:=by simp[h']
     go_wp2
     go_ret2
     rw[HE2.out]
     exact⟨_,rfl,.none,rfl⟩
    ·obtain⟨k,rfl⟩:∃k:Nat,z=(k:Int):=⟨z.toNat,by omega⟩
     have hk:k<m:=by omega
     obtain⟨x,hx⟩:∃x,l[k]?=some x:=⟨_,List.getElem?_eq_getElem (by rw[HM.out];exact hk)⟩
     obtain⟨b2,o2,u,rfl,_,_,c2,hxa⟩:=HSUB.out k x hx
     have HE2:Hid (cm a zs=cm x (zs.drop (j+1))):=Lib.hid (by rw[HE1.out,if_neg (by omega)];simp[hx])
     have HX:=Lib.hid hxa.has
     have d2:decide (m≤k)=false:=by simp;omega
     clear hx hxa h h' hz1 hz2
     go_wp2
     go_round
     case rel=>exact⟨j+1,x,by omega,by go_num,HX,HE2⟩
     case measure=>simp[intOf];omega
  ·obtain rfl:j=n:=by omega
   have HE2:Hid (cm a zs=(0,b)):=Lib.hid (by rw[HE.out,List.drop_of_length_le (by rw[HN.out];exact Nat.le_refl _),cm_nil])
   go_wp2
   go_ret2
   rw[HE2.out]
   exact⟨_,rfl,HB.out,rfl⟩
end Go.Proofs.YtlogjpmdfimgdaaGreatDoor
namespace Go.Own
def fList(q:Int×A):List A×Int:=if q.1=0 then (match q.2 with | .list l=>(l,0) | _=>([],9))else ([],q.1)
end Go.Own
namespace Go.Proofs.YtlogjpmdfimgdaaGreatDoor
open Go.RowKit Go.Own
end Go.Proofs.YtlogjpmdfimgdaaGreatDoor
namespace Go.Own
mutual
def smA:A→Prop
 | .list l=>l.length≤1000∧smAs l
 |_=>True
def smAs:List A→Prop
 | []=>True
 |x :: r=>smA x∧smAs r
end
theorem smAs_all:∀l,smAs l↔∀x∈l,smA x
 | []=>by simp[smAs]
 |x :: r=>by rw[smAs,smAs_all r];simp
theorem sm_of_er(a:A)(d:Nat)(h:er a d=0):smA a:=by
 induction a using A.ind generalizing d with
 |h4 l ih =>
  rw[er]at h
  split at h
  ·cases h
  ·rename_i hc
   exact⟨by omega,(smAs_all l).2 fun x hx=>ih x hx (d+1) ((ers_zero l _).1 h x hx)⟩
 |_=>trivial
theorem sm_none:smA .none:=trivial
theorem sm_cm:∀(zs:List Int) (a:A),smA a→smA (cm a zs).2
 | [],a,h=>by rw[cm_nil];exact h
 |i :: r,a,h=>by
  by_cases hb:∀l,a≠.list l
  ·rw[cm_other a hb];exact trivial
  ·obtain⟨l,rfl⟩:∃l,a=.list l:=by
    cases a with
    |list l=>exact⟨l,rfl⟩
    |_=>exact absurd (fun l h=>by cases h) hb
   rw[cm_list]
   split
   ·exact trivial
   ·refine sm_cm r _ ?_
    simp only[List.getD_eq_getElem?_getD]
    cases hx:l[i.toNat]? with
    |none=>exact trivial
    |some x=>exact(smAs_all l).1 h.2 x (List.mem_of_getElem? hx)
end Go.Own
namespace Go.Proofs.YtlogjpmdfimgdaaGreatDoor
open Go.RowKit Go.Own
def CopyQ(l:List A)(w:World)(e:Ending)(w':World):Prop:=∃p c,e=.returned (.slice p l.length c)∧AAt w' (fun b=>w.heap.size≤b) (.iface 67 (.slice p l.length c)) (.list l)∧Below w.heap.size w w'
def CopyB(a:A):Prop:=∀l,a=.list l→∀(v:Value) (w:World),Has w (.iface 67 v) (.list l)→Calls Tryz.prog 66 #[v] w (CopyQ l w)
theorem AAt.any{w:World}{S T:Nat→Prop}{v:Value}{a:A}(h:AAt w S v a)(hn:∀l,a≠.list l):AAt w T v a:=by
 cases h with
 |num n h=>exact .num n h
 |str s h=>exact .str s h
 |bool b=>exact .bool b
 |none=>exact .none
 |odd u=>exact .odd u
 |nil=>exact absurd rfl (hn _)
 |list=>exact absurd rfl (hn _)
theorem a_cases(a:A):(∀l,a≠.list l)∨∃l,a=.list l:=by
 cases a with
 |list l=>exact Or.inr ⟨l,rfl⟩
 |_=>exact Or.inl (fun l h=>by cases h)
set_option maxRecDepth 100000 in
set_option maxHeartbeats 1000000 in
theorem copied_list(l:List A)(ih:∀x∈l,CopyB x)(hl:l.length≤1000)(v:Value)(w:World)(hv:Has w (.iface 67 v) (.list l)):Calls Tryz.prog 66 #[v] w (CopyQ l w):=by
 obtain⟨p,c,hp⟩:=AAt.parts hv
 obtain⟨heq,_,hsub⟩:=hp
 simp only[Value.iface.injEq,true_and]at heq
 subst heq
 obtain⟨n,hn⟩:∃n,l.length=n:=⟨_,rfl⟩
 have HPOST:Hid (∀e w',(∃p c,e=.returned (.slice p n c)∧AAt w' (fun b=>w.heap.size≤b) (.iface 67 (.slice p n c)) (.list l)∧Below w.heap.size w w')→CopyQ l w e w'):=Lib.hid (fun e w' h=>by unfold CopyQ;rw[hn];exact h)
 rw[hn]at hl hv ⊢
 have HN:=Lib.hid hn
 have HI:=Lib.hid ih
 have HSUB:=Lib.hid hsub
 clear hn hv ih hsub
 go_enter Tryz.func66,Tryz.ntmps66
 go_wp2_with (at_make;refine wpList_makeA rfl _ _ rfl w.heap.size .i64 .i64 (n:Int) n rfl rfl rfl (by omega) (Nat.le_refl _) ?_)
 intro v2 w2 hr2 hb2
 have HR2:=Lib.hid hr2
 have HB2:=Lib.hid hb2
 clear hr2 hb2
 go_wp2
 go_loopw [3,13] (fun o i wr=>∃j:Nat,j≤n∧i=.int .i64 (j:Int)∧Hid (RowA wr w.heap.size o (l.take j))∧Hid (Below w.heap.size w wr)) (fun _ i _=>n-(intOf i).toNat)
 case atStart=>exact⟨0,Nat.zero_le _,rfl,Lib.hid (by simpa using HR2.out),HB2⟩
 case round =>
  obtain⟨j,hj,rfl,HR,HB⟩:=hrel
  have hBr:w.heap.size≤wr.heap.size:=HB.out.size
  by_cases hlt:j<n
  ·obtain⟨x,hx⟩:∃x,l[j]?=some x:=⟨_,List.getElem?_eq_getElem (by rw[HN.out];exact hlt)⟩
   obtain⟨b,o,t,rfl,_,hbw,c0,hxa⟩:=HSUB.out j x hx
   have c1:wr.cell? ⟨b,o+j,none⟩=some t:=by rw[HB.out.cell (p:=⟨b,o+j,none⟩) hbw];exact c0
   have HX:Hid (Has wr t x):=Lib.hid (Has.below hxa.has HB.out)
   have HT:=Lib.hid (take_snoc hx)
   have HIX:=Lib.hid (HI.out x (List.mem_of_getElem? hx))
   have HLT:Hid ((l.take j).length≤1000000):=Lib.hid (by rw[List.length_take];omega)
   have hbl:=HR.out.lt
   clear c0 hxa hx
   rcases a_cases x with hnl | ⟨l2,rfl⟩
   ·have HV:Hid (AAt wr (fun b=>w.heap.size≤b∧u3.ownBlock≠some b) t x):=Lib.hid (AAt.any HX.out hnl)
    have hsh:=no_list HX.out hnl
    clear hnl hbl
    rcases hsh with⟨ty,u,rfl,rfl | rfl | rfl | rfl⟩ | rfl
    all_goals
     go_wp2_with (at_builtin;refine wpList_push rfl (.tmp 26) (.tmp 28) rfl wr w.heap.size _ _ x _ rfl rfl HR.out HV.out rfl HLT.out hBr ?_)
     intro v4 w4 hr4 hb4
     have HR4:Hid (RowA w4 w.heap.size v4 (l.take (j+1))):=Lib.hid (by rw[HT.out];exact hr4)
     have HB4:=Lib.hid (HB.out.trans hb4)
     clear hr4 hb4
     go_wp2
     go_roundw
     case rel=>exact⟨j+1,by omega,by go_num,HR4,HB4⟩
     case measure=>simp[intOf];omega
   ·obtain⟨p2,c2,hp2⟩:=AAt.parts HX.out
    obtain⟨heq2,_,_⟩:=hp2
    subst heq2
    have HC:=Lib.hid (HIX.out l2 rfl (.slice p2 l2.length c2) wr HX.out)
    obtain⟨n2,hn2⟩:∃n2,l2.length=n2:=⟨_,rfl⟩
    unfold CopyQ at HC
    rw[hn2]at HC c1
    have HBL:=Lib.hid hbl
    clear hn2 hbl
    go_wp2_with (go_at_call 66;fail)
    refine HC.out.mono ?_
    rintro e w3 ⟨p3,c3,rfl,hv3,hb3⟩
    have HR3:=Lib.hid (HR.out.below hb3)
    have HB3:=Lib.hid (HB.out.trans (hb3.mono hBr))
    have HV:Hid (AAt w3 (fun b=>w.heap.size≤b∧u3.ownBlock≠some b) (.iface 67 (.slice p3 n2 c3)) (.list l2)):=Lib.hid (hv3.keep (fun b hb _=>⟨by omega,fun e=>by have:=(HBL.out b e).2;omega⟩) (Nat.le_refl _) (fun _ _ _=>rfl))
    have hB3:w.heap.size≤w3.heap.size:=HB3.out.size
    clear hv3 hb3
    go_wp2_with (at_builtin;refine wpList_push rfl (.tmp 26) (.tmp 28) rfl w3 w.heap.size _ _ (.list l2) _ rfl rfl HR3.out HV.out rfl HLT.out hB3 ?_)
    intro v4 w4 hr4 hb4
    have HR4:Hid (RowA w4 w.heap.size v4 (l.take (j+1))):=Lib.hid (by rw[HT.out];exact hr4)
    have HB4:=Lib.hid (HB3.out.trans hb4)
    clear hr4 hb4
    go_wp2
    go_roundw
    case rel=>exact⟨j+1,by omega,by go_num,HR4,HB4⟩
    case measure=>simp[intOf];omega
  ·obtain rfl:j=n:=by omega
   have HR1:Hid (RowA wr w.heap.size u3 l):=Lib.hid (by have h:=HR.out;rwa [List.take_of_length_le (by rw[HN.out];exact Nat.le_refl _)]at h)
   obtain⟨q,c2,rfl⟩:∃q c,u3=.slice q j c:=by
    have h:=HR1.out.shape
    rwa [HN.out]at h
   have HV:=Lib.hid HR1.out.has
   go_wp2
   go_ret
   exact HPOST.out _ _ ⟨q,c2,rfl,HV.out,HB.out⟩
theorem copied_any(a:A)(hs:smA a):CopyB a:=by
 induction a using A.ind with
 |h4 l ih =>
  intro l' hl' v w hv
  cases hl'
  exact copied_list l (fun x hx=>ih x hx ((smAs_all l).1 hs.2 x hx)) hs.1 v w hv
 |_=>intro l hl;cases hl
end Go.Proofs.YtlogjpmdfimgdaaGreatDoor
namespace Go.Proofs.YtlogjpmdfimgdaaGreatDoor
open Go.RowKit Go.Own
def GotL(r:List A×Int)(w:World)(e:Ending)(w':World):Prop:=∃sl,e=.returned (.tuple #[sl,.int .i64 r.2])∧Has w (.iface 67 sl) (.list r.1)∧w=w'
theorem fList_other{a:A}(h:∀l,a≠.list l):fList (0,a)=([],9):=by
 cases a with
 |list l=>exact absurd rfl (h l)
 |_=>rfl
set_option maxRecDepth 100000 in
set_option maxHeartbeats 1000000 in
theorem found_list(a:A)(zs:List Int)(v vz:Value)(w:World)(hv:Has w v a)(hz:Ints w vz zs):Calls Tryz.prog 65 #[v,vz] w (GotL (fList (cm a zs)) w):=by
 have HC:=Lib.hid (come_any a zs v vz w hv hz)
 obtain⟨⟨c,x⟩,hq⟩:∃q,cm a zs=q:=⟨_,rfl⟩
 rw[hq]at HC ⊢
 clear hq hv hz
 by_cases h0:c=0
 ·subst h0
  go_enter Tryz.func65,Tryz.ntmps65
  go_wp2_with (go_at_call 91;fail)
  refine HC.out.mono ?_
  rintro e w' ⟨v2,rfl,hx,rfl⟩
  rcases a_cases x with hnl | ⟨l,rfl⟩
  ·have HE:=Lib.hid (fList_other hnl)
   have hsh:=no_list hx hnl
   clear hx hnl
   rcases hsh with⟨ty,u,rfl,rfl | rfl | rfl | rfl⟩ | rfl
   all_goals
    go_wp2
    go_ret2
    rw[HE.out]
    exact⟨_,rfl,.nil,rfl⟩
  ·have HX:=Lib.hid hx
   obtain⟨p2,c2,hp2⟩:=AAt.parts hx
   obtain⟨heq2,_,_⟩:=hp2
   subst heq2
   clear hx
   go_wp2
   go_ret2
   exact⟨_,rfl,HX.out,rfl⟩
 ·have e1:(c == 0)=false:=by simp[h0]
  have e2:(c != 0)=true:=by simp[h0]
  have HF:Hid (fList (c,x)=([],c)):=Lib.hid (if_neg h0)
  clear h0
  go_enter Tryz.func65,Tryz.ntmps65
  go_wp2_with (go_at_call 91;fail)
  refine HC.out.mono ?_
  rintro e w' ⟨v2,rfl,hx,rfl⟩
  clear hx
  go_wp2
  go_ret2
  rw[HF.out]
  exact⟨_,rfl,.nil,rfl⟩
def ListQ(r:List A×Int)(w:World)(e:Ending)(w':World):Prop :=
 ∃p c,e=.returned (.tuple #[.slice p r.1.length c,.int .i64 r.2])∧AAt w' (fun b=>w.heap.size≤b) (.iface 67 (.slice p r.1.length c)) (.list r.1)∧Below w.heap.size w w'
theorem sm_fList{q:Int×A}(h:smA q.2):smA (.list (fList q).1):=by
 unfold fList
 split
 ·split
  ·rename_i l hl;rw[hl]at h;exact h
  ·exact⟨by simp,trivial⟩
 ·exact⟨by simp,trivial⟩
set_option maxRecDepth 100000 in
set_option maxHeartbeats 1000000 in
theorem list_any(a:A)(zs:List Int)(v vz:Value)(w:World)(hs:smA a)(hv:Has w v a)(hz:Ints w vz zs):Calls Tryz.prog 38 #[v,vz] w (ListQ (fList (cm a zs)) w):=by
 have HC:=Lib.hid (found_list a zs v vz w hv hz)
 have HS:=Lib.hid (sm_fList (sm_cm zs a hs))
 obtain⟨⟨l,c⟩,hq⟩:∃q,fList (cm a zs)=q:=⟨_,rfl⟩
 rw[hq]at HC HS ⊢
 have HCP:=Lib.hid (fun v w hv=>copied_any (.list l) HS.out l rfl v w hv)
 obtain⟨n,hn⟩:∃n,l.length=n:=⟨_,rfl⟩
 have HPOST:Hid (∀e w',(∃p d,e=.returned (.tuple #[.slice p n d,.int .i64 c])∧AAt w' (fun b=>w.heap.size≤b) (.iface 67 (.slice p n d)) (.list l)∧Below w.heap.size w w')→ListQ (l,c) w e w'):=Lib.hid (fun e w' h=>by unfold ListQ;simp only;rw[hn];exact h)
 unfold CopyQ at HCP
 rw[hn]at HCP
 clear hq hv hz hs hn
 go_enter Tryz.func38,Tryz.ntmps38
 go_wp2_with (go_at_call 65;fail)
 refine HC.out.mono ?_
 rintro e w' ⟨sl,rfl,hx,rfl⟩
 have HX:=Lib.hid hx
 clear hx
 go_wp2_with (go_at_call 66;fail)
 refine(HCP.out _ _ HX.out).mono ?_
 rintro e w2 ⟨p,d,rfl,hv2,hb2⟩
 have HV2:=Lib.hid hv2
 have HB2:=Lib.hid hb2
 clear hv2 hb2
 go_wp2
 go_ret2
 exact HPOST.out _ _ ⟨p,d,rfl,HV2.out,HB2.out⟩
theorem str_ff{a b:ByteArray}(h:a≠b):(a.toList == b.toList)=false:=by
 rw[ByteArray.toList_eq,ByteArray.toList_eq]
 exact beq_eq_false_iff_ne.2 fun e=>h (ByteArray.ext (Array.toList_inj.1 e))
noncomputable def sameB(a b:A):Bool:=decide (er a 0=0)&&decide (er b 0=0)&&decide (prt a=prt b)
def SameQ(r:Bool)(w:World)(e:Ending)(w':World):Prop:=e=.returned (.bool r)∧Below w.heap.size w w'
set_option maxRecDepth 100000 in
set_option maxHeartbeats 1000000 in
theorem same_any(a b:A)(v u:Value)(w:World)(hv:Has w v a)(hu:Has w u b)(ha:sz a 0≤140737488355328)(hb:sz b 0≤140737488355328):Calls Tryz.prog 19 #[v,u] w (SameQ (sameB a b) w):=by
 have HA:=Lib.hid (print_any a v w hv ha)
 have HB:=Lib.hid (fun W (h:Below w.heap.size w W)=>print_any b u W (hu.below h) hb)
 have hcs:(er a 0≠0∧sameB a b=false)∨(er a 0=0∧er b 0≠0∧sameB a b=false)∨(er a 0=0∧er b 0=0∧prt a≠prt b∧sameB a b=false)∨(er a 0=0∧er b 0=0∧prt a=prt b∧sameB a b=true):=by
  unfold sameB
  by_cases h1:er a 0=0
  ·by_cases h2:er b 0=0
   ·by_cases h3:prt a=prt b
    ·exact Or.inr (Or.inr (Or.inr ⟨h1,h2,h3,by simp[h1,h2,h3]⟩))
    ·exact Or.inr (Or.inr (Or.inl ⟨h1,h2,h3,by simp[h3]⟩))
   ·exact Or.inr (Or.inl ⟨h1,h2,by simp[h2]⟩)
  ·exact Or.inl ⟨h1,by simp[h1]⟩
 unfold PrintQ at HA HB
 obtain⟨c,hc⟩:∃c,er a 0=c:=⟨_,rfl⟩
 obtain⟨d,hd⟩:∃d,er b 0=d:=⟨_,rfl⟩
 obtain⟨s,hs⟩:∃s,prt a=s:=⟨_,rfl⟩
 obtain⟨t,ht⟩:∃t,prt b=t:=⟨_,rfl⟩
 obtain⟨r,hr⟩:∃r,sameB a b=r:=⟨_,rfl⟩
 rw[hc,hs]at HA
 rw[hd,ht]at HB
 rw[hc,hd,hs,ht,hr]at hcs
 rw[hr]
 clear hc hd hs ht hr hv hu ha hb
 have fin:∀(e:Ending) (W:World),e=.returned (.bool r)→Below w.heap.size w W→SameQ r w e W:=fun e W h1 h2=>⟨h1,h2⟩
 have HF:=Lib.hid fin
 clear fin
 rcases hcs with⟨h1,rfl⟩ | ⟨rfl,h2,rfl⟩ | ⟨rfl,rfl,h3,rfl⟩ | ⟨rfl,rfl,rfl,rfl⟩
 ·have e1:(c == 0)=false:=by simp[h1]
  clear h1
  go_enter Tryz.func19,Tryz.ntmps19
  go_wp2_with (go_at_call 39;fail)
  refine HA.out.mono ?_
  rintro e w1 ⟨rfl,hb1⟩
  have HB1:=Lib.hid hb1
  clear hb1
  go_wp2_with (go_at_call 39;fail)
  refine(HB.out _ HB1.out).mono ?_
  rintro e w2 ⟨rfl,hb2⟩
  have HB2:=Lib.hid (HB1.out.trans (hb2.mono HB1.out.size))
  clear hb2
  go_wp2
  go_ret
  exact HF.out _ _ rfl HB2.out
 ·have e1:(d == 0)=false:=by simp[h2]
  clear h2
  go_enter Tryz.func19,Tryz.ntmps19
  go_wp2_with (go_at_call 39;fail)
  refine HA.out.mono ?_
  rintro e w1 ⟨rfl,hb1⟩
  have HB1:=Lib.hid hb1
  clear hb1
  go_wp2_with (go_at_call 39;fail)
  refine(HB.out _ HB1.out).mono ?_
  rintro e w2 ⟨rfl,hb2⟩
  have HB2:=Lib.hid (HB1.out.trans (hb2.mono HB1.out.size))
  clear hb2
  go_wp2
  go_ret
  exact HF.out _ _ rfl HB2.out
 ·have e1:=str_ff h3
  clear h3
  go_enter Tryz.func19,Tryz.ntmps19
  go_wp2_with (go_at_call 39;fail)
  refine HA.out.mono ?_
  rintro e w1 ⟨rfl,hb1⟩
  have HB1:=Lib.hid hb1
  clear hb1
  go_wp2_with (go_at_call 39;fail)
  refine(HB.out _ HB1.out).mono ?_
  rintro e w2 ⟨rfl,hb2⟩
  have HB2:=Lib.hid (HB1.out.trans (hb2.mono HB1.out.size))
  clear hb2
  go_wp2
  go_ret
  exact HF.out _ _ rfl HB2.out
 ·go_enter Tryz.func19,Tryz.ntmps19
  go_wp2_with (go_at_call 39;fail)
  refine HA.out.mono ?_
  rintro e w1 ⟨rfl,hb1⟩
  have HB1:=Lib.hid hb1
  clear hb1
  go_wp2_with (go_at_call 39;fail)
  refine(HB.out _ HB1.out).mono ?_
  rintro e w2 ⟨rfl,hb2⟩
  have HB2:=Lib.hid (HB1.out.trans (hb2.mono HB1.out.size))
  clear hb2
  go_wp2
  go_ret
  exact HF.out _ _ rfl HB2.out
end Go.Proofs.YtlogjpmdfimgdaaGreatDoor

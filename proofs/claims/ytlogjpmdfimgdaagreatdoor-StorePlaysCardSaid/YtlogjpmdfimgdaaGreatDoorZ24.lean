/- A half, with what it tells: by contract. No condition but that the power is on. | slices.Grow and slices.Concat over rows of steps: by contract. No condition but the sizes. | A step done on the disk; the turn of a journal: by contract. No condition but that the disk counts little. | The turn of a journal: by contract. No condition but that the disk counts little. | Rows of steps, and rows of such rows, in whatever has grown: what makes them, what joins them. No condition but the sizes. -/
import Derived.Test.YtlogjpmdfimgdaaGreatDoorZ22
import Derived.Test.YtlogjpmdfimgdaaGreatDoorZ23
import Derived.Lib.AppendZeros
namespace Go.Proofs.YtlogjpmdfimgdaaGreatDoor.Jf
open Go Go.RowKit Go.Own.Jf Go.Own.Fr
attribute [-go_sem] Sm.execOp_bs run_string_add_if
attribute [local go_sem] agj61 csj61 szj61 agj88 csj88 szj88 agj25 isaj25 csj25 szj25 agj32 isaj32 csj32 szj32 agj38 isaj38 csj38 szj38 agj54 isaj54 csj54 szj54 agj9 isaj9 csj9 szj9 zj61 zj88 alXA ldH0 ldH1 ldH2 ldH3 ldH4 ldH5 ldHA ldR0 ldR1 ldR2 stRA stH3 stHAv stHAp
theorem set_mid2{L:List Obj}{r X:Obj}{k:Nat}(h:¬k=L.length):((L++[r]).set k X)[L.length]?=some r:=by
 rw[List.getElem?_set_ne h];simp
attribute [local go_sem high] set_mid2
def mU(W:World)(b:Nat):Nat :=
 match blk W b with
 |some (.cells c _ _)=>(intOf (c.getD 5 undef)).toNat
 |_=>0
theorem mU_at{W:World}{b:Nat}{dv vt:Value}{a n g u:Nat}{t:TypeId}{f:Nat×Nat}(h:blk W b=some (.cells (hcl dv a n g vt u) t f)):mU W b=u:=by
 unfold mU;rw[h];simp[hcl,intOf]
theorem _root_.Go.Own.Jf.RowV.form{A:Nat→Prop}{w:World}{l:List Obj}{sz n:Nat}{v:Value}{C:List Value}(h:RowV A w l sz n v C):∃q c,v=.slice q n c:=by
 rcases h with⟨rfl,rfl,_⟩ | ⟨i,c,X,t,_,rfl,_⟩
 ·exact⟨none,0,rfl⟩
 ·exact⟨_,c,rfl⟩
theorem takV_none{x:List Nat}(h:takenL x=none):takV x=#[.agg (rcl 0 0 .empty),.bool false]:=by unfold takV;rw[h]
theorem takV_some{x:List Nat}{g n:Nat}{t:List Nat}(h:takenL x=some (g,n,t)):takV x=#[.agg (rcl g n (mkS t)),.bool true]:=by unfold takV;rw[h]
def hv(w:World)(i:Nat)(h:Hf)(vt:Value):Value:=.agg (hcl (.pointer (some ⟨w.heap.size+i,0,none⟩)) h.first h.size h.gen vt h.used)
set_option maxRecDepth 100000 in
set_option maxHeartbeats 4000000 in
theorem told_any(w:World)(l:List Obj)(d i s q:Nat)(vw:Value)(O:Nat→Prop)(M:Dk)(hR:Sm.Roots w)(h:DAt w l i s q vw O M)(hoff:M.off=false)(a n:Nat)(hn:n≤4096)(han:a+n≤M.n) :
  Calls Tryz.prog 42 #[hv w i ⟨a,n,0,0,[]⟩ (.slice none 0 0)] (Wd w l d) fun e w'=>∃vt l' d',e=.returned (hv w i ((⟨a,n,0,0,[]⟩:Hf).told M) vt)∧w'=Wd w l' d' ∧
   RowV (fun p=>l.length≤p) w l' 1 ((⟨a,n,0,0,[]⟩:Hf).told M).texts.length vt (strs ((⟨a,n,0,0,[]⟩:Hf).told M).texts)∧l.length≤l'.length∧∀p,p<l.length→l'[p]?=l[p]?:=by
 have hMn:=h.ok.n2
 obtain⟨R,hRT⟩:∃R,(⟨a,n,0,0,[]⟩:Hf).told M=R:=⟨_,rfl⟩
 obtain⟨x,hx⟩:∃x,rdL M a n=x:=⟨_,rfl⟩
 have hxl:x.length=n*64:=by
  rw[←hx]
  have aux:∀k,k≤n→(rdL M a k).length=k*64:=by
   intro k
   induction k with
   |zero=>intro _;simp[rdL]
   |succ k ih =>
    intro hk
    rw[rdL_succ,List.length_append,ih (by omega)]
    have hr:refE M.off M.n ((a+k:Nat):Int)=0:=by
     unfold refE;rw[hoff,if_neg (by simp),if_neg (by omega)]
    unfold Dk.read
    rw[if_pos hr,Int.toNat_natCast,sec_length h.ok.seenL (by omega)];omega
  exact aux n (Nat.le_refl _)
 have hx8:B8 x:=by rw[←hx];exact rdL_B8 M h.ok a n
 have hT0:Hid (Hf.tell x (n+1) ⟨a,n,0,0,[]⟩=R):=Lib.hid (by rw[←hRT,←hx];rfl)
 obtain⟨l1,hl1⟩:∃l1,l++[Obj.cells (hcl (.pointer (some ⟨w.heap.size+i,0,none⟩)) a n 0 (.slice none 0 0) 0) 107 (0,0)]++[Obj.cells (hcl (.pointer none) 0 0 0 (.slice none 0 0) 0) 107 (0,0)]=l1:=⟨_,rfl⟩
 have HRD:=Lib.hid fun d=>rdH_any w l1 d i s q vw O M (by rw[←hl1,List.append_assoc];exact h.app _) a n 0 0 (.slice none 0 0) hn (by omega)
 rw[hx]at HRD
 have h0:l1[l.length]?=some (.cells (hcl (.pointer (some ⟨w.heap.size+i,0,none⟩)) a n 0 (.slice none 0 0) 0) 107 (0,0)):=by rw[←hl1];simp
 have h1:l1[l.length+1]?=some (.cells (hcl (.pointer none) 0 0 0 (.slice none 0 0) 0) 107 (0,0)):=by rw[←hl1];simp
 have HSM:Hid (∀p,p<l.length→l1[p]?=l[p]?):=Lib.hid fun p hp=>by rw[←hl1,List.append_assoc,List.getElem?_append_left hp]
 have H0:=Lib.hid h0
 have H1:=Lib.hid h1
 rw[hRT]
 have HR:=Lib.hid hR
 have hbl:(mkS x).size=n*64:=by rw[mkS_size,hxl]
 have hbx:bys (mkS x)=x:=bys_mkS _ hx8
 obtain⟨X,hX⟩:∃X,mkS x=X:=⟨_,rfl⟩
 rw[hX]at hbl hbx HRD
 have HBX:=Lib.hid hbx
 have HXL:=Lib.hid hxl
 have HX8:=Lib.hid hx8
 obtain⟨m,hm⟩:∃m,n*64=m:=⟨_,rfl⟩
 rw[hm]at hbl
 have HM:=Lib.hid hm
 clear hx hxl hx8 hRT h hR hX hbx hm hoff han
 unfold hv
 go_enter Tryz.func42,Tryz.ntmps42
 go_wp2_with fail
 refine(HRD.out _).mono ?_
 rintro e w' ⟨rfl,gR,dR,rfl⟩
 clear h0 h1 hl1
 go_wp2
 go_loopw [4,5,8] (fun _ _ _ wr=>∃(u g f:Nat) (ts:List (List Nat)) (vt:Value) (L:List Obj) (d:Nat),wr=Wd w L d∧Hid (L[l.length]?=some (.cells (hcl (.pointer (some ⟨w.heap.size+i,0,none⟩)) a n g vt u) 107 (0,0)))∧Hid (L[l.length+1]?=some (.cells (hcl (.pointer none) 0 0 0 (.slice none 0 0) 0) 107 (0,0))) ∧
  Hid (RowV (fun p=>l.length+2≤p) w L 1 ts.length vt (strs ts))∧Hid (∀p,p<l.length→L[p]?=l[p]?)∧Hid (l.length+2≤L.length)∧Hid (Hf.tell x f ⟨a,n,g,u,ts⟩=R)∧Hid (n+1≤f+u)∧u≤n∧g≤1099511627776∧ts.length≤u) (fun _ _ _ wr=>n+1-mU wr (w.heap.size+l.length))
 case atStart=>exact⟨0,0,n+1,[],.slice none 0 0,l1++gR,dR,rfl,Lib.hid (app_some H0.out),Lib.hid (app_some H1.out),Lib.hid (.inl ⟨rfl,rfl,rfl⟩),Lib.hid fun p hp=>by rw[List.getElem?_append_left (by have:=(List.getElem?_eq_some_iff.1 H1.out).1;omega)];exact HSM.out p hp,Lib.hid (by have:=(List.getElem?_eq_some_iff.1 H1.out).1;simp;omega),hT0,Lib.hid (by omega),by omega,by omega,by simp⟩
 case round =>
  obtain⟨u,g,f,ts,vt,L,d,rfl,HL0,HL1,HRV,HSAME,HLEN,HTELL,HF,hun,hg40,htsu⟩:=hrel
  obtain⟨q2,c2,rfl⟩:=HRV.out.form
  have HMU:Hid (∀d,mU (Wd w L d) (w.heap.size+l.length)=u):=Lib.hid fun d=>mU_at (by rw[blk_at];exact HL0.out)
  have hg0:=HL0.out
  have hg1:=HL1.out
  obtain⟨U,hU⟩:∃U,u*64=U:=⟨_,rfl⟩
  have hUi:(u:Int)*64=(U:Int):=by omega
  have hUm:U≤m:=by have:=HM.out;omega
  have hUmi:(U:Int)≤(m:Int):=by omega
  have hmb:m≤300000:=by have:=HM.out;omega
  obtain⟨Y,hY⟩:∃Y,X.extract U m=Y:=⟨_,rfl⟩
  have hYb:bys Y=x.drop U:=by
   rw[←hY,bys_extract,HBX.out,List.take_of_length_le (by rw[List.length_drop,HXL.out];have:=HM.out;omega)]
  have hYs:Y.size≤1000000:=by rw[←hY,ByteArray.size_extract];omega
  have HTK:=Lib.hid fun d=>taken_any w L d HR.out Y hYs
  rw[hYb]at HTK
  have HU:=Lib.hid hU
  have htw:IntKind.u64.wrap (ts.length:Int)=(ts.length:Int):=by
   have:ts.length<18446744073709551616:=by omega
   simp only[IntKind.wrap,IntKind.bits,IntKind.signed];simp;omega
  clear hU hYb hYs
  cases ht:takenL (x.drop U)with
  |none =>
   rw[takV_none ht]at HTK
   have HRH:Hid ((⟨a,n,g,u,ts⟩:Hf)=R):=Lib.hid (by rw[←HTELL.out];exact(next_none (next_of_none (by rw[HU.out];exact ht)) f).symm)
   clear ht
   go_wp2_with fail
   refine(HTK.out _).mono ?_
   rintro e w' ⟨rfl,g1,d1,rfl⟩
   obtain⟨L2,hL2⟩:∃L2,L++g1=L2:=⟨_,rfl⟩
   rw[hL2]
   have HL20:Hid (∀g',(L2++g')[l.length]?=some (.cells (hcl (.pointer (some ⟨w.heap.size+i,0,none⟩)) a n g (.slice q2 ts.length c2) u) 107 (0,0))):=Lib.hid fun g'=>app_some (by rw[←hL2];exact app_some HL0.out)
   have HL21:Hid (∀g',(L2++g')[l.length+1]?=some (.cells (hcl (.pointer none) 0 0 0 (.slice none 0 0) 0) 107 (0,0))):=Lib.hid fun g'=>app_some (by rw[←hL2];exact app_some HL1.out)
   have HSAME2:Hid (∀p,p<l.length→L2[p]?=l[p]?):=Lib.hid fun p hp=>by rw[←hL2,List.getElem?_append_left (by have:=HLEN.out;omega)];exact HSAME.out p hp
   have HLEN2:Hid (l.length+2≤L2.length):=Lib.hid (by rw[←hL2,List.length_append];have:=HLEN.out;omega)
   have HRV2:Hid (RowV (fun p=>l.length+2≤p) w L2 1 ts.length (.slice q2 ts.length c2) (strs ts)):=Lib.hid (by rw[←hL2];exact HRV.out.more g1)
   clear hg0 hg1 hL2
   have k0:=HL20.out
   have k1:=HL21.out
   go_wp2
   refine ret_mix (i:=l.length+1) (c:=hcl (.pointer (some ⟨w.heap.size+i,0,none⟩)) a n g (.slice q2 ts.length c2) u) (t:=107) (f:=(0,0)) rfl rfl agj61 (set_some (k1 _)) rfl rfl ⟨.slice q2 ts.length c2,_,_,by rw[←HRH.out],rfl,?_,?_,fun p hp=>?_⟩
   ·rw[←HRH.out]
    exact(HRV2.out.more _).mono fun p hp _=>⟨by omega,by rw[List.getElem?_set_ne (by omega)]⟩
   ·have:=HLEN2.out
    simp only[List.length_set,List.length_append];omega
   ·rw[List.getElem?_set_ne (by omega),List.getElem?_append_left (by have:=HLEN2.out;omega)]
    exact HSAME2.out p hp
  |some r =>
   obtain⟨g',mm,t⟩:=r
   have ht':=ht
   rw[takV_some ht]at HTK
   have hnx:=next_of_some (h:=⟨a,n,g,u,ts⟩) (by rw[HU.out];exact ht)
   obtain⟨_,_,_,_,_,_,r1,r2,r3,_,_,_⟩:=taken_some ht
   have htb:=taken_B8 (HX8.out.drop _) ht
   have hfit:u+secs t.length≤n:=taken_fits HXL.out (by rw[HU.out];exact ht)
   have hps:=secs_pos t.length
   by_cases hst:mm≠ts.length∨g≠0∧g'≠g
   ·rw[if_pos hst]at hnx
    have HRH:Hid ((⟨a,n,g,u,ts⟩:Hf)=R):=Lib.hid (by rw[←HTELL.out];exact(next_none hnx f).symm)
    by_cases hmm:mm=ts.length
    ·have hgg:g≠0∧g'≠g:=by omega
     have q1:((mm:Int) != (ts.length:Int))=false:=by simp;omega
     have q2':((g:Int) != 0)=true:=by simp;omega
     have q3:((g':Int) != (g:Int))=true:=by simp;omega
     clear ht ht' hnx hst hmm hgg htb hfit hps r1 r2 r3
     go_wp2_with fail
     refine(HTK.out _).mono ?_
     rintro e w' ⟨rfl,g1,d1,rfl⟩
     obtain⟨L2,hL2⟩:∃L2,L++g1=L2:=⟨_,rfl⟩
     rw[hL2]
     have HL20:Hid (∀g',(L2++g')[l.length]?=some (.cells (hcl (.pointer (some ⟨w.heap.size+i,0,none⟩)) a n g (.slice q2 ts.length c2) u) 107 (0,0))):=Lib.hid fun g'=>app_some (by rw[←hL2];exact app_some HL0.out)
     have HL21:Hid (∀g',(L2++g')[l.length+1]?=some (.cells (hcl (.pointer none) 0 0 0 (.slice none 0 0) 0) 107 (0,0))):=Lib.hid fun g'=>app_some (by rw[←hL2];exact app_some HL1.out)
     have HSAME2:Hid (∀p,p<l.length→L2[p]?=l[p]?):=Lib.hid fun p hp=>by rw[←hL2,List.getElem?_append_left (by have:=HLEN.out;omega)];exact HSAME.out p hp
     have HLEN2:Hid (l.length+2≤L2.length):=Lib.hid (by rw[←hL2,List.length_append];have:=HLEN.out;omega)
     have HRV2:Hid (RowV (fun p=>l.length+2≤p) w L2 1 ts.length (.slice q2 ts.length c2) (strs ts)):=Lib.hid (by rw[←hL2];exact HRV.out.more g1)
     clear hg0 hg1 hL2
     have k0:=HL20.out
     have k1:=HL21.out
     go_wp2
     refine ret_mix (i:=l.length+1) (c:=hcl (.pointer (some ⟨w.heap.size+i,0,none⟩)) a n g (.slice q2 ts.length c2) u) (t:=107) (f:=(0,0)) rfl rfl agj61 (set_some (k1 _)) rfl rfl ⟨.slice q2 ts.length c2,_,_,by rw[←HRH.out],rfl,?_,?_,fun p hp=>?_⟩
     ·rw[←HRH.out]
      exact(HRV2.out.more _).mono fun p hp _=>⟨by omega,by rw[List.getElem?_set_ne (by omega)]⟩
     ·have:=HLEN2.out
      simp only[List.length_set,List.length_append];omega
     ·rw[List.getElem?_set_ne (by omega),List.getElem?_append_left (by have:=HLEN2.out;omega)]
      exact HSAME2.out p hp
    ·have q1:((mm:Int) != (ts.length:Int))=true:=by simp;omega
     clear ht ht' hnx hst hmm htb hfit hps r1 r2 r3
     go_wp2_with fail
     refine(HTK.out _).mono ?_
     rintro e w' ⟨rfl,g1,d1,rfl⟩
     obtain⟨L2,hL2⟩:∃L2,L++g1=L2:=⟨_,rfl⟩
     rw[hL2]
     have HL20:Hid (∀g',(L2++g')[l.length]?=some (.cells (hcl (.pointer (some ⟨w.heap.size+i,0,none⟩)) a n g (.slice q2 ts.length c2) u) 107 (0,0))):=Lib.hid fun g'=>app_some (by rw[←hL2];exact app_some HL0.out)
     have HL21:Hid (∀g',(L2++g')[l.length+1]?=some (.cells (hcl (.pointer none) 0 0 0 (.slice none 0 0) 0) 107 (0,0))):=Lib.hid fun g'=>app_some (by rw[←hL2];exact app_some HL1.out)
     have HSAME2:Hid (∀p,p<l.length→L2[p]?=l[p]?):=Lib.hid fun p hp=>by rw[←hL2,List.getElem?_append_left (by have:=HLEN.out;omega)];exact HSAME.out p hp
     have HLEN2:Hid (l.length+2≤L2.length):=Lib.hid (by rw[←hL2,List.length_append];have:=HLEN.out;omega)
     have HRV2:Hid (RowV (fun p=>l.length+2≤p) w L2 1 ts.length (.slice q2 ts.length c2) (strs ts)):=Lib.hid (by rw[←hL2];exact HRV.out.more g1)
     clear hg0 hg1 hL2
     have k0:=HL20.out
     have k1:=HL21.out
     go_wp2
     refine ret_mix (i:=l.length+1) (c:=hcl (.pointer (some ⟨w.heap.size+i,0,none⟩)) a n g (.slice q2 ts.length c2) u) (t:=107) (f:=(0,0)) rfl rfl agj61 (set_some (k1 _)) rfl rfl ⟨.slice q2 ts.length c2,_,_,by rw[←HRH.out],rfl,?_,?_,fun p hp=>?_⟩
     ·rw[←HRH.out]
      exact(HRV2.out.more _).mono fun p hp _=>⟨by omega,by rw[List.getElem?_set_ne (by omega)]⟩
     ·have:=HLEN2.out
      simp only[List.length_set,List.length_append];omega
     ·rw[List.getElem?_set_ne (by omega),List.getElem?_append_left (by have:=HLEN2.out;omega)]
      exact HSAME2.out p hp
   ·rw[if_neg hst]at hnx
    have hmm:mm=ts.length:=by omega
    obtain⟨f',rfl⟩:∃f',f=f'+1:=⟨f-1,by have:=HF.out;omega⟩
    have HT2:Hid (Hf.tell x f' ⟨a,n,g',u+secs t.length,ts++[t]⟩=R):=Lib.hid (by rw[←HTELL.out,next_tell hnx];rfl)
    have hF:=HF.out
    have HTB:Hid (bys (mkS t)=t):=Lib.hid (bys_mkS _ htb)
    have q1:((mm:Int) != (ts.length:Int))=false:=by simp;omega
    by_cases hg0':g=0
    ·have q2':((g:Int) != 0)=false:=by simp;omega
     clear ht ht' hnx hst hmm htb r1
     go_wp2_with fail
     refine(HTK.out _).mono ?_
     rintro e w' ⟨rfl,g1,d1,rfl⟩
     obtain⟨L2,hL2⟩:∃L2,L++g1=L2:=⟨_,rfl⟩
     rw[hL2]
     have HL20:Hid (∀g',(L2++g')[l.length]?=some (.cells (hcl (.pointer (some ⟨w.heap.size+i,0,none⟩)) a n g (.slice q2 ts.length c2) u) 107 (0,0))):=Lib.hid fun g'=>app_some (by rw[←hL2];exact app_some HL0.out)
     have HL21:Hid (∀g',(L2++g')[l.length+1]?=some (.cells (hcl (.pointer none) 0 0 0 (.slice none 0 0) 0) 107 (0,0))):=Lib.hid fun g'=>app_some (by rw[←hL2];exact app_some HL1.out)
     have HSAME2:Hid (∀p,p<l.length→L2[p]?=l[p]?):=Lib.hid fun p hp=>by rw[←hL2,List.getElem?_append_left (by have:=HLEN.out;omega)];exact HSAME.out p hp
     have HLEN2:Hid (l.length+2≤L2.length):=Lib.hid (by rw[←hL2,List.length_append];have:=HLEN.out;omega)
     have HRV2:Hid (RowV (fun p=>l.length+2≤p) w L2 1 ts.length (.slice q2 ts.length c2) (strs ts)):=Lib.hid (by rw[←hL2];exact HRV.out.more g1)
     clear hg0 hg1 hL2
     have k0:=HL20.out
     have k1:=HL21.out
     have s0:∀Z X,((L2++Z).set l.length X)[l.length]?=some X:=fun Z X=>set_some (k0 Z)
     have s2:¬l.length=L2.length:=by have:=HLEN2.out;omega
     have HS0:=Lib.hid s0
     have HK1:=Lib.hid k1
     go_wp2_with fail
     obtain⟨L3,hL3⟩:∃L3,(L2++[Obj.cells (rcl g' mm (mkS t)) 145 (0,0)]).set l.length (.cells (hcl (.pointer (some ⟨w.heap.size+i,0,none⟩)) a n g' (.slice q2 ts.length c2) u) 107 (0,0))=L3:=⟨_,rfl⟩
     have e0:L3[l.length]?=some (.cells (hcl (.pointer (some ⟨w.heap.size+i,0,none⟩)) a n g' (.slice q2 ts.length c2) u) 107 (0,0)):=by rw[←hL3];exact HS0.out _ _
     have e1:L3[l.length+1]?=some (.cells (hcl (.pointer none) 0 0 0 (.slice none 0 0) 0) 107 (0,0)):=by rw[←hL3];exact set_other (by omega) (HK1.out _)
     have HL3:Hid (l.length+2≤L3.length):=Lib.hid (by rw[←hL3,List.length_set,List.length_append];have:=HLEN2.out;omega)
     have HSAME3:Hid (∀p,p<l.length→L3[p]?=l[p]?):=Lib.hid fun p hp=>by rw[←hL3,List.getElem?_set_ne (by omega),List.getElem?_append_left (by have:=HLEN2.out;omega)];exact HSAME2.out p hp
     have HRV3:Hid (RowV (fun p=>l.length+2≤p) w L3 1 ts.length (.slice q2 ts.length c2) (strs ts)):=Lib.hid (by rw[←hL3];exact(HRV2.out.more _).mono fun p hp _=>⟨hp,by rw[List.getElem?_set_ne (by omega)]⟩)
     rw[hL3]
     have HE0:=Lib.hid e0
     have HE1:=Lib.hid e1
     clear s0 s2 k0 k1 hL3 e0 e1
     refine(with_any w L3 _ (some ⟨w.heap.size+i,0,none⟩) q2 a n g' u ts.length c2 ts (fun p=>l.length+2≤p) (fun p hp=>by have:=HL3.out;omega) HRV3.out (mkS t) (by rw[mkS_size];omega) (by omega) (by omega)).mono ?_
     rintro e w' ⟨vt',l',d',rfl,rfl,hr,hlen,hsame⟩
     rw[HTB.out]at hr
     rw[mkS_size]
     have hv1:=RowV.one hr
     have j0:l'[l.length]?=some (.cells (hcl (.pointer (some ⟨w.heap.size+i,0,none⟩)) a n g' (.slice q2 ts.length c2) u) 107 (0,0)):=(hsame _ (by have:=HL3.out;omega) (RowV.notAt HRV3.out (by omega))).trans HE0.out
     have j1:l'[l.length+1]?=some (.cells (hcl (.pointer none) 0 0 0 (.slice none 0 0) 0) 107 (0,0)):=(hsame _ (by have:=HL3.out;omega) (RowV.notAt HRV3.out (by omega))).trans HE1.out
     have HJ0:=Lib.hid j0
     have HJ1:=Lib.hid j1
     have HSAME4:Hid (∀p,p<l.length→l'[p]?=l[p]?):=Lib.hid fun p hp=>(hsame p (by have:=HL3.out;omega) (RowV.notAt HRV3.out (by omega))).trans (HSAME3.out p hp)
     have HR4:=Lib.hid hr
     have HLEN4:Hid (l.length+2≤l'.length):=Lib.hid (by have:=HL3.out;omega)
     clear hr hlen hsame j1
     go_wp2
     go_roundw
     case rel=>exact⟨u+secs t.length,g',f',ts++[t],vt',_,d',rfl,Lib.hid (set_some HJ0.out),Lib.hid (set_other (by omega) HJ1.out),Lib.hid (by rw[List.length_append,List.length_singleton];exact HR4.out.mono fun p hp _=>⟨hp,by rw[List.getElem?_set_ne (by omega)]⟩),Lib.hid fun p hp=>by rw[List.getElem?_set_ne (by omega)];exact HSAME4.out p hp,Lib.hid (by rw[List.length_set];exact HLEN4.out),HT2,Lib.hid (by omega),hfit,r2,by rw[List.length_append,List.length_singleton];omega⟩
     case measure =>
      rw[HMU.out,mU_at (by rw[blk_at];exact set_some HJ0.out)]
      omega
    ·have hgg:g'=g:=by omega
     have q2':((g:Int) != 0)=true:=by simp;omega
     have q3:((g':Int) != (g:Int))=false:=by simp;omega
     clear ht ht' hnx hst hmm htb r1 hgg
     go_wp2_with fail
     refine(HTK.out _).mono ?_
     rintro e w' ⟨rfl,g1,d1,rfl⟩
     obtain⟨L2,hL2⟩:∃L2,L++g1=L2:=⟨_,rfl⟩
     rw[hL2]
     have HL20:Hid (∀g',(L2++g')[l.length]?=some (.cells (hcl (.pointer (some ⟨w.heap.size+i,0,none⟩)) a n g (.slice q2 ts.length c2) u) 107 (0,0))):=Lib.hid fun g'=>app_some (by rw[←hL2];exact app_some HL0.out)
     have HL21:Hid (∀g',(L2++g')[l.length+1]?=some (.cells (hcl (.pointer none) 0 0 0 (.slice none 0 0) 0) 107 (0,0))):=Lib.hid fun g'=>app_some (by rw[←hL2];exact app_some HL1.out)
     have HSAME2:Hid (∀p,p<l.length→L2[p]?=l[p]?):=Lib.hid fun p hp=>by rw[←hL2,List.getElem?_append_left (by have:=HLEN.out;omega)];exact HSAME.out p hp
     have HLEN2:Hid (l.length+2≤L2.length):=Lib.hid (by rw[←hL2,List.length_append];have:=HLEN.out;omega)
     have HRV2:Hid (RowV (fun p=>l.length+2≤p) w L2 1 ts.length (.slice q2 ts.length c2) (strs ts)):=Lib.hid (by rw[←hL2];exact HRV.out.more g1)
     clear hg0 hg1 hL2
     have k0:=HL20.out
     have k1:=HL21.out
     have s0:∀Z X,((L2++Z).set l.length X)[l.length]?=some X:=fun Z X=>set_some (k0 Z)
     have s2:¬l.length=L2.length:=by have:=HLEN2.out;omega
     have HS0:=Lib.hid s0
     have HK1:=Lib.hid k1
     go_wp2_with fail
     obtain⟨L3,hL3⟩:∃L3,(L2++[Obj.cells (rcl g' mm (mkS t)) 145 (0,0)]).set l.length (.cells (hcl (.pointer (some ⟨w.heap.size+i,0,none⟩)) a n g' (.slice q2 ts.length c2) u) 107 (0,0))=L3:=⟨_,rfl⟩
     have e0:L3[l.length]?=some (.cells (hcl (.pointer (some ⟨w.heap.size+i,0,none⟩)) a n g' (.slice q2 ts.length c2) u) 107 (0,0)):=by rw[←hL3];exact HS0.out _ _
     have e1:L3[l.length+1]?=some (.cells (hcl (.pointer none) 0 0 0 (.slice none 0 0) 0) 107 (0,0)):=by rw[←hL3];exact set_other (by omega) (HK1.out _)
     have HL3:Hid (l.length+2≤L3.length):=Lib.hid (by rw[←hL3,List.length_set,List.length_append];have:=HLEN2.out;omega)
     have HSAME3:Hid (∀p,p<l.length→L3[p]?=l[p]?):=Lib.hid fun p hp=>by rw[←hL3,List.getElem?_set_ne (by omega),List.getElem?_append_left (by have:=HLEN2.out;omega)];exact HSAME2.out p hp
     have HRV3:Hid (RowV (fun p=>l.length+2≤p) w L3 1 ts.length (.slice q2 ts.length c2) (strs ts)):=Lib.hid (by rw[←hL3];exact(HRV2.out.more _).mono fun p hp _=>⟨hp,by rw[List.getElem?_set_ne (by omega)]⟩)
     rw[hL3]
     have HE0:=Lib.hid e0
     have HE1:=Lib.hid e1
     clear s0 s2 k0 k1 hL3 e0 e1
     refine(with_any w L3 _ (some ⟨w.heap.size+i,0,none⟩) q2 a n g' u ts.length c2 ts (fun p=>l.length+2≤p) (fun p hp=>by have:=HL3.out;omega) HRV3.out (mkS t) (by rw[mkS_size];omega) (by omega) (by omega)).mono ?_
     rintro e w' ⟨vt',l',d',rfl,rfl,hr,hlen,hsame⟩
     rw[HTB.out]at hr
     rw[mkS_size]
     have hv1:=RowV.one hr
     have j0:l'[l.length]?=some (.cells (hcl (.pointer (some ⟨w.heap.size+i,0,none⟩)) a n g' (.slice q2 ts.length c2) u) 107 (0,0)):=(hsame _ (by have:=HL3.out;omega) (RowV.notAt HRV3.out (by omega))).trans HE0.out
     have j1:l'[l.length+1]?=some (.cells (hcl (.pointer none) 0 0 0 (.slice none 0 0) 0) 107 (0,0)):=(hsame _ (by have:=HL3.out;omega) (RowV.notAt HRV3.out (by omega))).trans HE1.out
     have HJ0:=Lib.hid j0
     have HJ1:=Lib.hid j1
     have HSAME4:Hid (∀p,p<l.length→l'[p]?=l[p]?):=Lib.hid fun p hp=>(hsame p (by have:=HL3.out;omega) (RowV.notAt HRV3.out (by omega))).trans (HSAME3.out p hp)
     have HR4:=Lib.hid hr
     have HLEN4:Hid (l.length+2≤l'.length):=Lib.hid (by have:=HL3.out;omega)
     clear hr hlen hsame j1
     go_wp2
     go_roundw
     case rel=>exact⟨u+secs t.length,g',f',ts++[t],vt',_,d',rfl,Lib.hid (set_some HJ0.out),Lib.hid (set_other (by omega) HJ1.out),Lib.hid (by rw[List.length_append,List.length_singleton];exact HR4.out.mono fun p hp _=>⟨hp,by rw[List.getElem?_set_ne (by omega)]⟩),Lib.hid fun p hp=>by rw[List.getElem?_set_ne (by omega)];exact HSAME4.out p hp,Lib.hid (by rw[List.length_set];exact HLEN4.out),HT2,Lib.hid (by omega),hfit,r2,by rw[List.length_append,List.length_singleton];omega⟩
     case measure =>
      rw[HMU.out,mU_at (by rw[blk_at];exact set_some HJ0.out)]
      omega
end Go.Proofs.YtlogjpmdfimgdaaGreatDoor.Jf
namespace Go.Own.Jf
open Go Go.RowKit Go.Own.Fr
theorem wpList_zeros{P:Program}{ops:Array Oper}{rest:List Oper}{o:Oper}{a:Act}{Q:Exit→Act→World→Prop}{w:World}{l:List Obj}{d:Nat}(hgd:o.guard=none)(x y:Operand)(T K E:TypeId)(kn:IntKind)
  (ho:o.op=.call { callee:=.builtin .append,args:=#[x,y],argTypes:=#[T,K] }) (hR:RowT P T E 1) (hKn:P.underlying K=some (.int kn)) (hv:a.eval x=.slice none 0 0) (n:Nat) (hu:a.eval y=.int .i64 (n:Int)) (h0:0<n) (hs:n≤1048576)
  (hK:∀(c:Nat) (X:List Value),Hid (X.length=c)→Hid (n≤c)→wpList P ops Q rest (a.put o.dst (.slice (some ⟨w.heap.size+l.length,0,none⟩) n c)) (Wd w (l++[.cells X.toArray E (0,0)]) (d+1))):wpList P ops Q (o :: rest) a (Wd w l d):=by
 refine wpList_plain hgd fun K0 hk=>?_
 obtain⟨hT,ti,z,hi,hz,hsz,hzc,hb⟩:=hR
 have hnb:n*ti.bytes≤281474976710656:=by
  have:=Nat.mul_le_mul hs hb
  omega
 have hr:=Lib.run_append_nil_zeros (P:=P) (Wd w l d) T K o.type E ti z .i64 kn hT hKn hi hz n h0 (by omega) (by omega) hnb
 rw[Wd_drew,Wd_alloc,Wd_size]at hr
 have hge:=grownCap_ge (Wd w l d) n 0 E
 unfold Oper.wp
 simp[execOp,ho,resolve,invoke,builtin,hv,hu,hr,Result.andThen]
 have:=hK (grownCap (Wd w l d) n 0 E) (Builtin.zeroCells z.cells n++Builtin.zeroCells z.cells (grownCap (Wd w l d) n 0 E-n)).toList (by rw[Array.length_toList,Array.size_append,zeroCells_size,zeroCells_size,hzc];exact Lib.hid (by omega)) (Lib.hid hge)
 rw[Array.toArray_toList]at this
 exact hk _ _ this
end Go.Own.Jf
namespace Go.Proofs.YtlogjpmdfimgdaaGreatDoor.Jf
open Go Go.RowKit Go.Own.Jf Go.Own.Fr
attribute [-go_sem] Sm.execOp_bs run_string_add_if
attribute [local go_sem] agj78 isaj78 csj78 szj78 ldX_mix1
set_option maxRecDepth 100000 in
theorem grow_any(w:World)(l:List Obj)(d n:Nat)(hn:n≤1000000) :
  Calls Tryz.prog 82 #[.slice none 0 0,.int .i64 (n:Int)] (Wd w l d) fun e w'=>∃v g' d',e=.returned v∧w'=Wd w (l++g') d'∧RowV (fun p=>l.length≤p) w (l++g') 1 0 v []:=by
 have hn0:¬(n:Int)<0:=by omega
 by_cases h0:n=0
 ·subst h0
  go_enter Tryz.func82,Tryz.ntmps82
  go_wp2
  go_ret
  exact⟨.slice none 0 0,rfl,[],⟨_,by rw[List.append_nil]⟩,.inl ⟨rfl,rfl,rfl⟩⟩
 ·have hp:(0:Int)<(n:Int):=by omega
  have hpn:0<n:=by omega
  clear h0
  go_enter Tryz.func82,Tryz.ntmps82
  go_wp2_with (refine wpList_zeros rfl (.tmp 20) (.tmp 21) 129 3 131 .i64 rfl rt78 (by kernel_rfl) rfl n rfl hpn (by omega) ?_)
  intro c X HX HC
  go_wp2
  go_ret
  exact⟨_,_,_,rfl,rfl,.inr ⟨l.length,c,X,131,Nat.le_refl _,rfl,by simp,by rw[HX.out,Nat.mul_one],Nat.zero_le _,by simp⟩⟩
theorem flat_take{α:Type}(cs:List (List α))(k:Nat)(C:List α)(h:cs[k]?=some C):(cs.take (k+1)).flatten=(cs.take k).flatten++C:=by
 rw[List.take_add_one,h];simp
theorem flat_take_le{α:Type}(cs:List (List α))(k:Nat):(cs.take k).flatten.length≤cs.flatten.length:=by
 have:cs.flatten=(cs.take k).flatten++(cs.drop k).flatten:=by rw[←List.flatten_append,List.take_append_drop]
 rw[this,List.length_append];omega
def Rws(w:World)(l:List Obj)(n:Nat)(X:List Value)(cs:List (List Value)):Prop :=
 cs.length=n∧n≤X.length∧∀(k:Nat) v C,X[k]?=some v→cs[k]?=some C→RowV (fun _=>True) w l 1 C.length v C∧∀u∈C,u.oneCell'=true
set_option maxRecDepth 100000 in
set_option maxHeartbeats 2000000 in
theorem concat_any(w:World)(l:List Obj)(d j n cap:Nat)(X:List Value)(T:TypeId)(cs:List (List Value))(hj:l[j]?=some (.cells X.toArray T (0,0)))(hX:Rws w l n X cs)(N:Nat)(hN:cs.flatten.length=N)(hb:N≤500000)(hn:n≤500000) :
  Calls Tryz.prog 59 #[.slice (some ⟨w.heap.size+j,0,none⟩) n cap] (Wd w l d) fun e w'=>∃v g' d',e=.returned v∧w'=Wd w (l++g') d'∧RowV (fun p=>l.length≤p) w (l++g') 1 N v cs.flatten:=by
 have HG:=Lib.hid fun l d=>grow_any w l d N (by omega)
 have HNN:=Lib.hid hN
 have HX:=Lib.hid hX
 have HJ:=Lib.hid hj
 clear hX hj hN
 go_enter Tryz.func59,Tryz.ntmps59
 go_wp2_with fail
 go_loopw [3,11] (fun e i wr=>∃k:Nat,k≤n∧e=.int .i64 (((cs.take k).flatten.length:Nat):Int)∧i=.int .i64 (k:Int)∧wr=Wd w l d) (fun _ i _=>n-(intOf i).toNat)
 case atStart=>exact⟨0,by omega,rfl,rfl,rfl⟩
 case round =>
  obtain⟨k,hk,rfl,rfl,rfl⟩:=hrel
  by_cases hlt:k<n
  ·obtain⟨v,hv⟩:∃v,X[k]?=some v:=⟨_,List.getElem?_eq_getElem (by have:=HX.out.2.1;omega)⟩
   obtain⟨C,hC⟩:∃C,cs[k]?=some C:=⟨_,List.getElem?_eq_getElem (by have:=HX.out.1;omega)⟩
   have hkx:=HX.out.2.2 k v C hv hC
   obtain⟨q,c,rfl⟩:=hkx.1.form
   have hF:=flat_take cs k C hC
   have hle:=flat_take_le cs (k+1)
   rw[hF,List.length_append]at hle
   have HF:=Lib.hid hF
   obtain⟨s,hs⟩:∃s,(cs.take k).flatten.length=s:=⟨_,rfl⟩
   rw[hs]at hle
   rw[hs]
   have HS:=Lib.hid hs
   obtain⟨m,hm⟩:∃m,C.length=m:=⟨_,rfl⟩
   have HM:=Lib.hid hm
   rw[hm]at hv hle
   have hsm:s+m≤500000:=by have:=HNN.out;omega
   have hsmi:¬((s:Int)+(m:Int)<0):=by omega
   have hva:X.toArray[k]?=some (.slice q m c):=by rw[List.getElem?_toArray];exact hv
   have hblk:blk (Wd w l d) (w.heap.size+j)=some (.cells X.toArray T (0,0)):=by rw[blk_at];exact HJ.out
   have hki:(k:Int)<n:=by omega
   clear hs hm hF hle hkx hC hv
   go_wp2
   go_roundw
   case rel=>exact⟨k+1,by omega,by rw[HF.out,List.length_append,HS.out,HM.out];congr 1,by go_num,trivial⟩
   case measure=>simp[intOf];omega
  ·obtain rfl:k=n:=by omega
   have he:(cs.take k).flatten.length=N:=by rw[List.take_of_length_le (by rw[HX.out.1];exact Nat.le_refl _),HNN.out]
   rw[he]
   clear he
   go_wp2_with fail
   refine(HG.out _ _).mono ?_
   rintro e w' ⟨v,g',d',rfl,rfl,hR⟩
   have hR1:∀p,p<l.length→(l++g')[p]?=l[p]?:=fun p hp=>List.getElem?_append_left hp
   have hR2:l.length≤(l++g').length:=by rw[List.length_append];omega
   obtain⟨L0,hL0⟩:∃L0,l++g'=L0:=⟨_,rfl⟩
   rw[hL0]at hR hR1 hR2 ⊢
   have HR:=Lib.hid hR
   have HL0:Hid (l.length≤L0.length∧∀p,p<l.length→L0[p]?=l[p]?):=Lib.hid ⟨hR2,hR1⟩
   clear hR hR1 hR2 hL0 HG
   go_wp2
   go_loopw [6,27] (fun e i wr=>∃(m:Nat) (L:List Obj) (d:Nat),m≤k∧Hid (RowV (fun p=>l.length≤p) w L 1 (cs.take m).flatten.length e (cs.take m).flatten)∧i=.int .i64 (m:Int)∧Hid (l.length≤L.length∧∀p,p<l.length→L[p]?=l[p]?)∧wr=Wd w L d) (fun _ i _=>k-(intOf i).toNat)
   case atStart=>exact⟨0,L0,d',by omega,HR,rfl,HL0,rfl⟩
   case round =>
    clear HR HL0
    obtain⟨m,L,d2,hm,hRR,rfl,hLL,rfl⟩:=hrel
    by_cases hlt2:m<k
    ·obtain⟨x,hx⟩:∃x,X[m]?=some x:=⟨_,List.getElem?_eq_getElem (by have:=HX.out.2.1;omega)⟩
     obtain⟨C,hC⟩:∃C,cs[m]?=some C:=⟨_,List.getElem?_eq_getElem (by have:=HX.out.1;omega)⟩
     have hkx:=HX.out.2.2 m x C hx hC
     have HF:=Lib.hid (flat_take cs m C hC)
     have hle:=flat_take_le cs (m+1)
     rw[HF.out,List.length_append,HNN.out]at hle
     obtain⟨S,hS⟩:∃S,(cs.take m).flatten=S:=⟨_,rfl⟩
     have hRR':=hRR.out
     rw[hS]at hRR'
     have HRR:=Lib.hid hRR'
     have HXR:Hid (RowV (fun _=>True) w L 1 C.length x C):=Lib.hid (hkx.1.mono fun p _ hlt=>⟨trivial,hLL.out.2 p hlt⟩)
     have HC1:=Lib.hid hkx.2
     rw[hS]at hle
     have HLE:=Lib.hid hle
     have HS:=Lib.hid hS
     have hva:X.toArray[m]?=some x:=by rw[List.getElem?_toArray];exact hx
     have hjl:j<l.length:=(List.getElem?_eq_some_iff.1 HJ.out).1
     have hblk:blk (Wd w L d2) (w.heap.size+j)=some (.cells X.toArray T (0,0)):=by rw[blk_at,hLL.out.2 j hjl];exact HJ.out
     have hki:(m:Int)<k:=by omega
     clear hle hS hRR hRR' hkx hC hx hjl
     go_wp2_with (refine wpList_row rfl (.tmp 31) (.tmp 32) 129 131 rfl rt78 (A:=fun p=>l.length≤p) (B:=fun _=>True) (fun p hp=>by have:=hLL.out.1;omega) _ S.length S rfl HRR.out x C.length C rfl HXR.out HC1.out (by have:=HLE.out;omega) ?_)
     intro v3 l3 d3 HR3 HG3 HS3
     have HOF:Hid (∀p,p<l.length→l3[p]?=l[p]?):=Lib.hid fun p hp=>by
      rw[HS3.out p (by have:=hLL.out.1;omega) (rowV_off HRR.out (by omega))];exact hLL.out.2 p hp
     go_wp2
     go_roundw
     case rel=>exact⟨m+1,l3,d3,by omega,by rw[HF.out,HS.out,List.length_append];exact HR3,by go_num,Lib.hid ⟨Nat.le_trans hLL.out.1 HG3.out,HOF.out⟩,rfl⟩
     case measure=>simp[intOf];omega
    ·obtain rfl:m=k:=by omega
     have he:(cs.take m).flatten=cs.flatten:=by rw[List.take_of_length_le (by rw[HX.out.1];exact Nat.le_refl _)]
     have hRR':=hRR.out
     rw[he,HNN.out]at hRR'
     have HRR:=Lib.hid hRR'
     clear hRR' he
     go_wp2
     go_ret
     obtain⟨g2,rfl⟩:=prefix_of hLL.out.2
     exact⟨_,g2,d2,rfl,rfl,HRR.out⟩
end Go.Proofs.YtlogjpmdfimgdaaGreatDoor.Jf
namespace Go.Proofs.YtlogjpmdfimgdaaGreatDoor.Jf
open Go Go.RowKit Go.Own.Jf Go.Own.Fr
theorem runS_append(M:Dk)(a b:List Stp):runS M (a++b)=if (runS M a).2 then runS (runS M a).1 b else runS M a:=by
 induction a generalizing M with
 |nil=>rfl
 |cons s r ih =>
  rw[List.cons_append,runS,runS]
  split
  ·exact ih _
  ·rfl
theorem runS_snoc(M N:Dk)(ss:List Stp)(k:Nat)(s:Stp)(hs:ss[k]?=some s)(h:runS M (ss.take k)=(N,true)) :
  ((s.run N).2=0→runS M (ss.take (k+1))=((s.run N).1,true))∧((s.run N).2≠0→runS M ss=((s.run N).1,false)):=by
 have e:ss.take (k+1)=ss.take k++[s]:=by rw[List.take_add_one,hs];rfl
 refine⟨fun h0=>?_,fun h0=>?_⟩
 ·rw[e,runS_append,h]
  simp[runS,h0]
 ·have e2:ss=ss.take k++(s :: ss.drop (k+1)):=by
   have h1:=(List.take_append_drop (k+1) ss).symm
   rw[e,List.append_assoc]at h1
   exact h1
  rw[e2,runS_append,h]
  simp[runS,h0]
theorem run_count(M:Dk)(s:Stp):(s.run M).1.count≤M.count+1:=by
 cases s with
 |w a x =>
  show (M.write (a:Int) x).1.count≤_
  unfold Dk.write
  split
  ·split
   ·exact Nat.le_succ _
   ·exact counted_count _
  ·exact Nat.le_succ _
 |f =>
  show (M.flush).1.count≤_
  unfold Dk.flush
  split
  ·exact Nat.le_succ _
  ·split
   ·exact Nat.zero_le _
   ·exact Nat.le_succ_of_le (counted_count _)
attribute [-go_sem] Sm.execOp_bs run_string_add_if
attribute [local go_sem] agj61 csj61 szj61 agj25 isaj25 csj25 szj25 agj9 isaj9 csj9 szj9 ldH0 ldH1 ldHA
set_option maxRecDepth 100000 in
theorem wstep_any(w:World)(l:List Obj)(d i s q:Nat)(vw:Value)(O:Nat→Prop)(M:Dk)(h:DAt w l i s q vw O M)(hc:M.count<1099511627776)(hO:∀p,O p→p<l.length)(b1 b2 b3 fi n g u:Nat)(vt:Value)(k:Nat)(y:ByteArray)
  (h1:l[b1]?=some (.cells (hcl (.pointer (some ⟨w.heap.size+i,0,none⟩)) fi n g vt u) 107 (0,0))) (h2:l[b2]?=some (.cells #[.int .i64 (k:Int)] 3 (0,0))) (h3:l[b3]?=some (.cells #[.string y] 9 (0,0))) (hk:fi+k≤1000000) :
  Calls Tryz.prog 118 #[.pointer (some ⟨w.heap.size+b1,0,none⟩),.pointer (some ⟨w.heap.size+b2,0,none⟩),.pointer (some ⟨w.heap.size+b3,0,none⟩)] (Wd w l d) fun e w'=>e=.returned (.int .i64 (((M.write ((fi+k:Nat):Int) (bys y)).2:Nat):Int))∧∃l' d' vw',w'=Wd w l' d'∧DAt w l' i s q vw' O (M.write ((fi+k:Nat):Int) (bys y)).1∧Kp O l l':=by
 have HW:=Lib.hid fun d=>write_any w l d i s q vw O M ((fi+k:Nat):Int) y h hc hO
 have hsum:(fi:Int)+(k:Int)=((fi+k:Nat):Int):=by omega
 obtain⟨a,ha⟩:∃a,fi+k=a:=⟨_,rfl⟩
 rw[ha]at hk hsum HW ⊢
 clear ha h hO
 go_enter Tryz.func118,Tryz.ntmps118
 go_wp2_with fail
 refine(HW.out _).mono ?_
 rintro e w' ⟨rfl,l',d',vw',rfl,hD,hK⟩
 go_wp2
 go_ret
 exact⟨rfl,_,_,_,rfl,hD,hK⟩
end Go.Proofs.YtlogjpmdfimgdaaGreatDoor.Jf
namespace Go.Proofs.YtlogjpmdfimgdaaGreatDoor.Jf
open Go Go.RowKit Go.Own.Jf Go.Own.Fr
attribute [-go_sem] Sm.execOp_bs run_string_add_if
attribute [local go_sem] agj61 csj61 szj61 agj25 isaj25 csj25 szj25 agj9 isaj9 csj9 szj9 agj78 isaj78 csj78 szj78 agj80 isaj80 csj80 szj80 ldX_mix1 ldH0 ldH1 ldH2 ldHA alXA stJ6 buj61b sz4
theorem stJAp{P:Program}{T ty:TypeId}{w:World}{l:List Obj}{d i:Nat}{dv vt:Value}{a n g u a' n' g' u' x c:Nat}{o:Bool}{p q:Option Addr}(h1:(sizeOf T).run P (Wd w l d)=.ok 6 (Wd w l d))(h2:l[i]?=some (.cells (jcl dv a n g vt u o) ty (0,0))) :
  stX P T 6 (some (.cells (jcl dv a n g vt u o) ty (0,0))) w l d i 0 (.agg (hcl (.pointer p) a' n' g' (.slice q x c) u'))=.ok () (Wd w (l.set i (.cells (jcl (.pointer p) a' n' g' (.slice q x c) u' o) ty (0,0))) d):=stJA rfl rfl h1 h2
attribute [local go_sem] stJAp
def TurnQ(w:World)(l:List Obj)(i sd q:Nat)(O:Nat→Prop)(M:Dk)(ss:List Stp)(jo fi n g:Nat)(vt:Value)(u:Nat)(o:Bool)(e:Ending)(w':World):Prop :=
 ∃l' d' vw',e=.returned (.int .i64 (if (runS M ss).2 then 0 else 7))∧w'=Wd w l' d'∧DAt w l' i sd q vw' O (runS M ss).1∧l.length≤l'.length∧(∀p,O p→p≠jo→l'[p]?=l[p]?) ∧
    l'[jo]?=some (.cells (if (runS M ss).2 then jcl (.pointer (some ⟨w.heap.size+i,0,none⟩)) fi n g vt u o else jcl (.pointer (some ⟨w.heap.size+i,0,none⟩)) 0 n 0 (.slice none 0 0) 0 true) 110 (0,0))
set_option maxRecDepth 100000 in
set_option maxHeartbeats 4000000 in
theorem turn_any(w:World)(l:List Obj)(d i sd q:Nat)(vw:Value)(O:Nat→Prop)(M:Dk)(h:DAt w l i sd q vw O M)(hO:∀p,O p→p<l.length)(jo r m cap:Nat)(jd jv:Value)(ja jn jg ju:Nat)(o:Bool)(fi n g u tx tc:Nat)(tq:Option Addr)(X:List Value)(T:TypeId)(vs:List Value)(ss:List Stp)
  (hj:l[jo]?=some (.cells (jcl jd ja jn jg jv ju o) 110 (0,0))) (hOj:O jo) (hr:l[r]?=some (.cells X.toArray T (0,0))) (hOr:O r) (hmX:m≤X.length) (hX:X.take m=vs) (hss:ss.length=m) (hst:Steps w l O i vs ss) (hc:M.count+m<1099511627776) (hm:m≤1000000) :
  Calls Tryz.prog 58 #[.pointer (some ⟨w.heap.size+jo,0,none⟩),.agg (hcl (.pointer (some ⟨w.heap.size+i,0,none⟩)) fi n g (.slice tq tx tc) u),.slice (some ⟨w.heap.size+r,0,none⟩) m cap] (Wd w l d) fun e w' =>
   TurnQ w l i sd q O M ss jo fi n g (.slice tq tx tc) u o e w':=by
 obtain⟨O2,hO2⟩:∃O2:Nat→Prop,O2=fun p=>O p∨p=l.length:=⟨_,rfl⟩
 have hD0:DAt w (l++[Obj.cells (hcl (.pointer (some ⟨w.heap.size+i,0,none⟩)) fi n g (.slice tq tx tc) u) 107 (0,0)]) i sd q vw O2 M:=h.keep fun p hp hlt=>⟨by rw[hO2];exact fun h'=>h'.elim hp (fun e=>by omega),List.getElem?_append_left hlt⟩
 have HOB:Hid (O2 l.length∧O2 jo∧O2 r∧jo<l.length∧r<l.length):=Lib.hid (by rw[hO2];exact⟨.inr rfl,.inl hOj,.inl hOr,hO _ hOj,hO _ hOr⟩)
 have HO1:Hid (∀p,O p→O2 p):=Lib.hid (by rw[hO2];exact fun p hp=>.inl hp)
 have HO2:Hid (∀p,O2 p→p<(l++[Obj.cells (hcl (.pointer (some ⟨w.heap.size+i,0,none⟩)) fi n g (.slice tq tx tc) u) 107 (0,0)]).length):=Lib.hid (by
  rw[hO2,List.length_append,List.length_singleton]
  rintro p (hp | hp)
  ·have:=hO p hp;omega
  ·omega)
 have HLB:Hid ((l++[Obj.cells (hcl (.pointer (some ⟨w.heap.size+i,0,none⟩)) fi n g (.slice tq tx tc) u) 107 (0,0)])[l.length]?=some (Obj.cells (hcl (.pointer (some ⟨w.heap.size+i,0,none⟩)) fi n g (.slice tq tx tc) u) 107 (0,0))):=Lib.hid (by simp)
 have HLJ:Hid ((l++[Obj.cells (hcl (.pointer (some ⟨w.heap.size+i,0,none⟩)) fi n g (.slice tq tx tc) u) 107 (0,0)])[jo]?=some (.cells (jcl jd ja jn jg jv ju o) 110 (0,0))):=Lib.hid (app_some hj)
 have HLR:Hid ((l++[Obj.cells (hcl (.pointer (some ⟨w.heap.size+i,0,none⟩)) fi n g (.slice tq tx tc) u) 107 (0,0)])[r]?=some (.cells X.toArray T (0,0))):=Lib.hid (app_some hr)
 have HST:Hid (Steps w (l++[Obj.cells (hcl (.pointer (some ⟨w.heap.size+i,0,none⟩)) fi n g (.slice tq tx tc) u) 107 (0,0)]) O2 i vs ss):=Lib.hid (hst.mono fun p hp hlt=>⟨HO1.out p hp,List.getElem?_append_left hlt⟩)
 have HL1:Hid ((l++[Obj.cells (hcl (.pointer (some ⟨w.heap.size+i,0,none⟩)) fi n g (.slice tq tx tc) u) 107 (0,0)]).length=l.length+1∧∀p,O p→(l++[Obj.cells (hcl (.pointer (some ⟨w.heap.size+i,0,none⟩)) fi n g (.slice tq tx tc) u) 107 (0,0)])[p]?=l[p]?):=Lib.hid ⟨by simp,fun p hp=>List.getElem?_append_left (hO p hp)⟩
 obtain⟨L0,hL0⟩:∃L0,l++[Obj.cells (hcl (.pointer (some ⟨w.heap.size+i,0,none⟩)) fi n g (.slice tq tx tc) u) 107 (0,0)]=L0:=⟨_,rfl⟩
 have HL0:=Lib.hid hL0
 rw[hL0]at hD0 HO2 HLB HLJ HLR HST HL1
 have HD0:=Lib.hid hD0
 have HX:=Lib.hid hX
 have HMX:=Lib.hid hmX
 have HSS:=Lib.hid hss
 have HCM:=Lib.hid hc
 have HO:=Lib.hid hO
 have HON:Hid (∀p,O2 p→¬O p→p=l.length):=Lib.hid (by rw[hO2];exact fun p hp hn=>hp.elim (fun h'=>absurd h' hn) id)
 clear h hj hr hX hmX hss hst hc hO hD0 hOj hOr hL0 hO2
 go_enter Tryz.func58,Tryz.ntmps58
 go_wp2_with fail
 rw[HL0.out]
 go_loopw [11] (fun ix wr=>∃(k:Nat) (L:List Obj) (d:Nat) (N:Dk) (vw2:Value),k≤m∧ix=.int .i64 (k:Int)∧Hid (runS M (ss.take k)=(N,true))∧Hid (N.count≤M.count+k)∧Hid (DAt w L i sd q vw2 O2 N)∧Hid (Kp O2 L0 L)∧wr=Wd w L d) (fun ix _=>m-(intOf ix).toNat)
 case atStart=>exact⟨0,L0,d,M,vw,by omega,rfl,Lib.hid rfl,Lib.hid (by omega),HD0,Lib.hid (Kp.refl _ _),rfl⟩
 case round =>
  clear HD0
  obtain⟨k,L,d2,N,vw2,hk,rfl,HRUN,HCN,HD,HKP,rfl⟩:=hrel
  by_cases hlt:k<m
  ·obtain⟨v,hv⟩:∃v,vs[k]?=some v:=⟨_,List.getElem?_eq_getElem (by rw[←HX.out,List.length_take];have:=HMX.out;omega)⟩
   obtain⟨s,hs⟩:∃s,ss[k]?=some s:=⟨_,List.getElem?_eq_getElem (by rw[HSS.out];exact hlt)⟩
   have hst:StpAt w L O2 i v s:=(HST.out.2 k v s hv hs).mono fun p hp hlt=>⟨hp,HKP.out.2 p hp hlt⟩
   have HSN:=Lib.hid (runS_snoc M N ss k s hs HRUN.out)
   have hva:X.toArray[k]?=some v:=by
    rw[List.getElem?_toArray]
    rw[←HX.out,List.getElem?_take_of_lt hlt]at hv
    exact hv
   have hblk:∀d,blk (Wd w L d) (w.heap.size+r)=some (.cells X.toArray T (0,0)):=fun d=>by rw[blk_at,HKP.out.2 r HOB.out.2.2.1 (by rw[HL1.out.1];have:=HOB.out.2.2.2.2;omega)];exact HLR.out
   have hki:(k:Int)<m:=by omega
   have hcn:N.count<1099511627776:=by have:=HCN.out;have:=HCM.out;omega
   have hOL:∀p,O2 p→p<L.length:=fun p hp=>Nat.lt_of_lt_of_le (HO2.out p hp) HKP.out.1
   clear hv hs
   cases s with
   |f =>
    obtain rfl:v=.func (.func 86) #[.pointer (some ⟨w.heap.size+i,0,none⟩)] #[]:=hst
    have HCALL:=Lib.hid fun d=>flush_any w L d i sd q vw2 O2 N HD.out (by omega) hOL
    clear hcn hOL
    go_wp2_with fail
    refine(HCALL.out _).mono ?_
    rintro e w' ⟨rfl,l',d',vw3,rfl,hD2,hK2⟩
    obtain⟨z,hz⟩:∃z,(Stp.run N (.f)).2=z:=⟨_,rfl⟩
    obtain⟨N',hN'⟩:∃N',(Stp.run N (.f)).1=N':=⟨_,rfl⟩
    have hz2:(N.flush).2=z:=hz
    have hD3:DAt w l' i sd q vw3 O2 N':=by rw[←hN'];exact hD2
    have HC':=Lib.hid (show N'.count≤N.count+1 by rw[←hN'];exact run_count N _)
    have hsn:=HSN.out
    rw[hz,hN']at hsn
    rw[hz2]
    have HSN2:=Lib.hid hsn
    have HD3:=Lib.hid hD3
    have HKP2:=Lib.hid (HKP.out.trans hK2)
    have hbx:l'[l.length]?=some (Obj.cells (hcl (.pointer (some ⟨w.heap.size+i,0,none⟩)) fi n g (.slice tq tx tc) u) 107 (0,0)):=by rw[HKP2.out.2 _ HOB.out.1 (by rw[HL1.out.1];omega)];exact HLB.out
    have hjb:l'[jo]?=some (.cells (jcl jd ja jn jg jv ju o) 110 (0,0)):=by rw[HKP2.out.2 _ HOB.out.2.1 (by rw[HL1.out.1];have:=HOB.out.2.2.2.1;omega)];exact HLJ.out
    clear hD2 hK2 hsn hD3 hN' hz hz2 HCALL HSN hblk hva
    by_cases hz0:z=0
    ·have HSN1:=Lib.hid (HSN2.out.1 hz0)
     subst hz0
     clear hbx hjb
     go_wp2
     go_roundw
     case rel=>exact⟨k+1,l',d',N',vw3,by omega,by go_num,HSN1,Lib.hid (by have:=HC'.out;have:=HCN.out;omega),HD3,HKP2,rfl⟩
     case measure=>simp[intOf];omega
    ·have HRUN2:=Lib.hid (HSN2.out.2 hz0)
     have hzi:¬(z:Int)=0:=by omega
     have hzi2:((z:Int) != 0)=true:=by simpa using hzi
     have hsj:∀Y,(l'.set jo Y)[jo]?=some Y:=fun Y=>set_some hjb
     clear hz0 hzi
     go_wp2
     go_ret
     unfold TurnQ
     rw[HRUN2.out]
     refine⟨_,_,vw3,rfl,rfl,HD3.out.keep fun p hp hlt=>⟨fun h'=>hp (HO1.out p h'),List.getElem?_set_ne (fun e:jo=p=>hp (by rw[←e];exact HOB.out.2.1))⟩,?_,fun p hp hne=>?_,set_some hjb⟩
     ·rw[List.length_set];have:=HKP2.out.1;have:=HL1.out.1;omega
     ·rw[List.getElem?_set_ne fun e=>hne e.symm,HKP2.out.2 p (HO1.out p hp) (by have:=HL1.out.1;have:=HO.out p hp;omega)];exact HL1.out.2 p hp
   |w a x =>
    obtain⟨b1,b2,b3,fi',n',g',u',vt',at',y,_,_,_,rfl,e1,e2,e3,rfl,rfl,h4⟩:=hst
    have HCALL:=Lib.hid fun d=>wstep_any w L d i sd q vw2 O2 N HD.out hcn hOL b1 b2 b3 fi' n' g' u' vt' at' y e1 e2 e3 h4
    clear hcn hOL e1 e2 e3 h4
    go_wp2_with fail
    refine(HCALL.out _).mono ?_
    rintro e w' ⟨rfl,l',d',vw3,rfl,hD2,hK2⟩
    obtain⟨z,hz⟩:∃z,(Stp.run N (.w (fi'+at') (bys y))).2=z:=⟨_,rfl⟩
    obtain⟨N',hN'⟩:∃N',(Stp.run N (.w (fi'+at') (bys y))).1=N':=⟨_,rfl⟩
    have hz2:(N.write ((fi'+at':Nat):Int) (bys y)).2=z:=hz
    have hD3:DAt w l' i sd q vw3 O2 N':=by rw[←hN'];exact hD2
    have HC':=Lib.hid (show N'.count≤N.count+1 by rw[←hN'];exact run_count N _)
    have hsn:=HSN.out
    rw[hz,hN']at hsn
    rw[hz2]
    have HSN2:=Lib.hid hsn
    have HD3:=Lib.hid hD3
    have HKP2:=Lib.hid (HKP.out.trans hK2)
    have hbx:l'[l.length]?=some (Obj.cells (hcl (.pointer (some ⟨w.heap.size+i,0,none⟩)) fi n g (.slice tq tx tc) u) 107 (0,0)):=by rw[HKP2.out.2 _ HOB.out.1 (by rw[HL1.out.1];omega)];exact HLB.out
    have hjb:l'[jo]?=some (.cells (jcl jd ja jn jg jv ju o) 110 (0,0)):=by rw[HKP2.out.2 _ HOB.out.2.1 (by rw[HL1.out.1];have:=HOB.out.2.2.2.1;omega)];exact HLJ.out
    clear hD2 hK2 hsn hD3 hN' hz hz2 HCALL HSN hblk hva
    by_cases hz0:z=0
    ·have HSN1:=Lib.hid (HSN2.out.1 hz0)
     subst hz0
     clear hbx hjb
     go_wp2
     go_roundw
     case rel=>exact⟨k+1,l',d',N',vw3,by omega,by go_num,HSN1,Lib.hid (by have:=HC'.out;have:=HCN.out;omega),HD3,HKP2,rfl⟩
     case measure=>simp[intOf];omega
    ·have HRUN2:=Lib.hid (HSN2.out.2 hz0)
     have hzi:¬(z:Int)=0:=by omega
     have hzi2:((z:Int) != 0)=true:=by simpa using hzi
     have hsj:∀Y,(l'.set jo Y)[jo]?=some Y:=fun Y=>set_some hjb
     clear hz0 hzi
     go_wp2
     go_ret
     unfold TurnQ
     rw[HRUN2.out]
     refine⟨_,_,vw3,rfl,rfl,HD3.out.keep fun p hp hlt=>⟨fun h'=>hp (HO1.out p h'),List.getElem?_set_ne (fun e:jo=p=>hp (by rw[←e];exact HOB.out.2.1))⟩,?_,fun p hp hne=>?_,set_some hjb⟩
     ·rw[List.length_set];have:=HKP2.out.1;have:=HL1.out.1;omega
     ·rw[List.getElem?_set_ne fun e=>hne e.symm,HKP2.out.2 p (HO1.out p hp) (by have:=HL1.out.1;have:=HO.out p hp;omega)];exact HL1.out.2 p hp
  ·obtain rfl:k=m:=by omega
   have hrun:=HRUN.out
   rw[List.take_of_length_le (by rw[HSS.out];exact Nat.le_refl _)]at hrun
   have HRUN2:=Lib.hid hrun
   have hbx:L[l.length]?=some (Obj.cells (hcl (.pointer (some ⟨w.heap.size+i,0,none⟩)) fi n g (.slice tq tx tc) u) 107 (0,0)):=by rw[HKP.out.2 _ HOB.out.1 (by rw[HL1.out.1];omega)];exact HLB.out
   have hjb:L[jo]?=some (.cells (jcl jd ja jn jg jv ju o) 110 (0,0)):=by rw[HKP.out.2 _ HOB.out.2.1 (by rw[HL1.out.1];have:=HOB.out.2.2.2.1;omega)];exact HLJ.out
   clear hrun
   go_wp2
   go_ret
   unfold TurnQ
   rw[HRUN2.out]
   refine⟨_,_,vw2,rfl,rfl,HD.out.keep fun p hp hlt=>⟨fun h'=>hp (HO1.out p h'),List.getElem?_set_ne (fun e:jo=p=>hp (by rw[←e];exact HOB.out.2.1))⟩,?_,fun p hp hne=>?_,set_some hjb⟩
   ·rw[List.length_set];have:=HKP.out.1;have:=HL1.out.1;omega
   ·rw[List.getElem?_set_ne fun e=>hne e.symm,HKP.out.2 p (HO1.out p hp) (by have:=HL1.out.1;have:=HO.out p hp;omega)];exact HL1.out.2 p hp
end Go.Proofs.YtlogjpmdfimgdaaGreatDoor.Jf
namespace Go.Proofs.YtlogjpmdfimgdaaGreatDoor.Jf
open Go Go.RowKit Go.Own.Jf Go.Own.Fr
def srB(w:World)(B i:Nat)(ss:List Stp)(v:Value)(W:World):Prop:=∃vs L d,W=Wd w L d∧B≤L.length∧RowV (fun p=>B≤p) w L 1 ss.length v vs∧Steps w L (fun p=>B≤p) i vs ss
theorem srB_last(w:World)(B i:Nat)(ss:List Stp):Lasts (srB w B i ss):=by
 rintro v W W' ⟨vs,L,d,rfl,hb,hr,hs⟩ hB
 obtain⟨g,d',rfl⟩:=below_grows hB
 exact⟨vs,L++g,d',rfl,by rw[List.length_append];omega,hr.more g,hs.mono fun p hp hlt=>⟨hp,List.getElem?_append_left hlt⟩⟩
def rrB(w:World)(B i:Nat)(sss:List (List Stp))(v:Value)(W:World):Prop :=
 ∃(b cap:Nat) (X:List Value) (T:TypeId) (css:List (List Value)) (L:List Obj) (d:Nat),W=Wd w L d∧B≤L.length∧B≤b∧v=.slice (some ⟨w.heap.size+b,0,none⟩) sss.length cap∧L[b]?=some (.cells X.toArray T (0,0))∧sss.length≤X.length∧css.length=sss.length ∧
  ∀(k:Nat) x vs ss,X[k]?=some x→css[k]?=some vs→sss[k]?=some ss→RowV (fun p=>B≤p) w L 1 vs.length x vs∧Steps w L (fun p=>B≤p) i vs ss
theorem rrB_last(w:World)(B i:Nat)(sss:List (List Stp)):Lasts (rrB w B i sss):=by
 rintro v W W' ⟨b,cap,X,T,css,L,d,rfl,hb,hb2,hv,hx,hl,hcl,hr⟩ hB
 obtain⟨g,d',rfl⟩:=below_grows hB
 refine⟨b,cap,X,T,css,L++g,d',rfl,by rw[List.length_append];omega,hb2,hv,app_some hx,hl,hcl,fun k x vs ss h1 h2 h3=>?_⟩
 have:=hr k x vs ss h1 h2 h3
 exact⟨this.1.more g,this.2.mono fun p hp hlt=>⟨hp,List.getElem?_append_left hlt⟩⟩
theorem Steps.flatten{w:World}{L:List Obj}{A:Nat→Prop}{i:Nat}:∀(css:List (List Value)) (sss:List (List Stp)),css.length=sss.length→(∀(k:Nat) vs ss,css[k]?=some vs→sss[k]?=some ss→Steps w L A i vs ss)→Steps w L A i css.flatten sss.flatten
 | [],[],_,_=>Steps.nil _ _ _ _
 |vs :: css,ss :: sss,hl,h=>by
  rw[List.flatten_cons,List.flatten_cons]
  exact(h 0 vs ss rfl rfl).append (Steps.flatten css sss (by simpa using hl) fun k vs ss h1 h2=>h (k+1) vs ss h1 h2)
 | [],_ :: _,hl,_=>by cases hl
 |_ :: _,[],hl,_=>by cases hl
theorem below_of(w:World)(L g:List Obj)(d d':Nat):Below (Wd w L d).heap.size (Wd w L d) (Wd w (L++g) d'):=by
 have:=(Grows.of (Wd w L d) g d').below
 rwa [Wd_wd]at this
theorem sr_of{w:World}{B i:Nat}{ss:List Stp}{v:Value}{vs:List Value}{L g:List Obj}{d:Nat}(hB:B≤L.length)(hr:RowV (fun p=>L.length≤p) w (L++g) 1 vs.length v vs)(hs:Steps w (L++g) (fun p=>L.length≤p) i vs ss):srB w B i ss v (Wd w (L++g) d) :=
 ⟨vs,L++g,d,rfl,by rw[List.length_append];omega,by rw[←hs.1];exact hr.mono fun p hp _=>⟨by omega,rfl⟩,hs.mono fun p hp _=>⟨by omega,rfl⟩⟩
theorem concat_rr(w:World)(W:World)(B i:Nat)(sss:List (List Stp))(v:Value)(h:rrB w B i sss v W)(hb:sss.flatten.length≤500000)(hn:sss.length≤500000) :
  Calls Tryz.prog 59 #[v] W fun e W'=>∃v',e=.returned v'∧Below W.heap.size W W'∧srB w B i sss.flatten v' W':=by
 obtain⟨b,cap,X,T,css,L,d,rfl,hB,hb2,rfl,hx,hl,hcl,hr⟩:=h
 have hs:Steps w L (fun p=>B≤p) i css.flatten sss.flatten:=Steps.flatten css sss hcl fun k vs ss h1 h2=>by
  have hk:=(List.getElem?_eq_some_iff.1 h1).1
  exact(hr k _ vs ss (List.getElem?_eq_getElem (by omega)) h1 h2).2
 refine(concat_any w L d b sss.length cap X T css hx ⟨hcl,hl,fun k x C h1 h2=>?_⟩ css.flatten.length rfl (by rw[hs.1];exact hb) hn).mono ?_
 ·have hk:=(List.getElem?_eq_some_iff.1 h2).1
  have h3:sss[k]?=some (sss[k]'(by omega)):=List.getElem?_eq_getElem _
  have:=hr k x C _ h1 h2 h3
  exact⟨this.1.mono fun p _ _=>⟨trivial,rfl⟩,this.2.one⟩
 ·rintro e W' ⟨v',g',d',he,rfl,hR⟩
  exact⟨v',he,below_of _ _ _ _ _,css.flatten,L++g',d',rfl,by rw[List.length_append];omega,by rw[←hs.1];exact hR.mono fun p hp _=>⟨by omega,rfl⟩,hs.mono fun p hp hlt=>⟨hp,List.getElem?_append_left hlt⟩⟩
theorem laying_sr(w:World)(hR:Sm.Roots w)(W:World)(L:List Obj)(d:Nat)(hW:W=Wd w L d)(B i fi n g u c:Nat)(hB:B≤L.length)(q:Option Addr)(ts:List (List Nat))(t:ByteArray)(ht:t.size≤65535)(hts:ts.length≤100000)(hfi:fi≤100000)(hu:u≤100000) :
  Calls Tryz.prog 61 #[.agg (hcl (.pointer (some ⟨w.heap.size+i,0,none⟩)) fi n g (.slice q ts.length c) u),.string t] W fun e W'=>∃v',e=.returned v'∧Below W.heap.size W W'∧srB w B i ((⟨fi,n,g,u,ts⟩:Hf).laying (bys t)) v' W':=by
 subst hW
 refine(laying_any w hR L d i fi n g u c q ts t ht hts hfi hu).mono ?_
 rintro e W' ⟨v,vs,g',d',he,rfl,hr,hs⟩
 exact⟨v,he,below_of _ _ _ _ _,sr_of hB hr hs⟩
theorem ending_sr(w:World)(W:World)(L:List Obj)(d:Nat)(hW:W=Wd w L d)(B i fi n g u:Nat)(hB:B≤L.length)(vt:Value)(hu:u≤n)(hn:n≤100000)(hfi:fi≤100000)(ts:List (List Nat)) :
  Calls Tryz.prog 60 #[.agg (hcl (.pointer (some ⟨w.heap.size+i,0,none⟩)) fi n g vt u)] W fun e W'=>∃v',e=.returned v'∧Below W.heap.size W W'∧srB w B i (⟨fi,n,g,u,ts⟩:Hf).ending v' W':=by
 subst hW
 refine(ending_any w L d i fi n g u vt hu hn hfi ts).mono ?_
 rintro e W' ⟨v,vs,g',d',he,rfl,hr,hs⟩
 exact⟨v,he,below_of _ _ _ _ _,sr_of hB (by rw[hs.1];exact hr) hs⟩
set_option maxRecDepth 100000 in
theorem lays_rr2{dst:Option Tmp}{ty:TypeId}{pos:String}{after:Array Edge}{guard:Option (Nat×Bool)}{x y:Operand}{W:World}{j:Nat}{ps:List (Value→World→Prop)}{a:Act}{w:World}{B i:Nat}{s1 s2:List Stp}
  (h1:srB w B i s1 (a.eval x) W) (h2:srB w B i s2 (a.eval y) W) (hT:∀u W,rrB w B i [s1,s2] u W→TL ps j u W):Lays Tryz.prog (TL ps) j { dst,op:=.buildSlice 160 2 #[(0,x),(1,y)],type:=ty,pos,after,guard } a W:=by
 obtain⟨v1,L,d,rfl,hb,r1,t1⟩:=h1
 obtain⟨v2,L',d',e,_,r2,t2⟩:=h2
 obtain rfl:=Wd_inj e
 have hbs:=bsj842 (RowV.one r1) (RowV.one r2) w L d
 unfold bsN at hbs
 have he:(execOp a.eval { dst,op:=.buildSlice 160 2 #[(0,x),(1,y)],type:=ty,pos,after,guard }).run Tryz.prog (Wd w L d)=.ok (.value (.slice (some ⟨w.heap.size+L.length,0,none⟩) 2 2)) (Wd w (L++[.cells #[a.eval x,a.eval y] 129 (0,0)]) d):=by
  unfold execOp
  simp only[List.map_toArray,List.map_cons,List.map_nil,Sem.run_bind,hbs,Result.andThen_ok]
  rfl
 refine lays_value he (below_of _ _ _ _ _) (hT _ _ ⟨L.length,2,[a.eval x,a.eval y],129,[v1,v2],_,d,rfl,by rw[List.length_append];omega,hb,rfl,by simp,Nat.le_refl _,rfl,fun k z vs ss hx hv hs=>?_⟩)
 match k,hx,hv,hs with
 |0,hx,hv,hs =>
  simp at hx hv hs;subst hx;subst hv;subst hs
  exact⟨by rw[t1.1];exact RowV.more r1 _,t1.mono fun p hp hlt=>⟨hp,List.getElem?_append_left hlt⟩⟩
 |1,hx,hv,hs =>
  simp at hx hv hs;subst hx;subst hv;subst hs
  exact⟨by rw[t2.1];exact RowV.more r2 _,t2.mono fun p hp hlt=>⟨hp,List.getElem?_append_left hlt⟩⟩
 |k+2,hx,_,_=>simp at hx
end Go.Proofs.YtlogjpmdfimgdaaGreatDoor.Jf

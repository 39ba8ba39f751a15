/- Commit, given what a journal's functions answer: by contract. No condition but the sizes. | What was printed of changes is read as these changes; small values stay small. Plain. No condition. | The law's changes as the store has them: what is wanted of a region's operations. No condition but the sizes. | The law's changes as the store has them: by contract. No condition but the sizes. | An act of the law, to a store, given what a journal's functions answer: by contract. No condition but the sizes. | A disk's store, opened again, given what a journal's functions answer: by contract. | The law's acts as they came in; are they few and short enough? By contract. No condition. -/
import Derived.Test.YtlogjpmdfimgdaaGreatDoorX07
namespace Go.Proofs.YtlogjpmdfimgdaaGreatDoor
open Go Go.RowKit Go.Own Go.Own.Fr Go.Maps Go.WideMaps
section
variable{Sg:Type}{base:Nat}{JS:(Nat→Prop)→World→Addr→Sg→Prop}{good:Sg→Prop}{tx:Sg→List (List Nat)}{apE:Sg→List Nat→Int}{apS:Sg→List Nat→Sg}{anE:Sg→List (List Nat)→Int}{anS:Sg→List (List Nat)→Sg}
def Commits(apE:Sg→List Nat→Int)(apS:Sg→List Nat→Sg)(anE:Sg→List (List Nat)→Int)(anS:Sg→List (List Nat)→Sg)(s:Sg)(g:ByteArray→Option A)(cs:List Ch)(c:Int)(s':Sg)(g':ByteArray→Option A):Prop :=
 (er (trA cs) 0≠0∧c=er (trA cs) 0∧s'=s∧g'=g) ∨
 (er (trA cs) 0=0∧((apE s (bys (prt (trA cs)))=0∧c=0∧s'=apS s (bys (prt (trA cs)))∧g'=cs.foldl chF g) ∨
  (apE s (bys (prt (trA cs)))=6∧∃ks,RisesA (cs.foldl chF g) (fun _=>true) ks∧c=(anewR (anE (apS s (bys (prt (trA cs)))) ((txsB (cs.foldl chF g) ks).map bys)) g (cs.foldl chF g)).1∧s'=anS (apS s (bys (prt (trA cs)))) ((txsB (cs.foldl chF g) ks).map bys)∧g'=(anewR (anE (apS s (bys (prt (trA cs)))) ((txsB (cs.foldl chF g) ks).map bys)) g (cs.foldl chF g)).2) ∨
  (apE s (bys (prt (trA cs)))≠0∧apE s (bys (prt (trA cs)))≠6∧c=7∧s'=apS s (bys (prt (trA cs)))∧g'=fun _=>none)))
def CommitQ(base:Nat)(JS:(Nat→Prop)→World→Addr→Sg→Prop)(apE:Sg→List Nat→Int)(apS:Sg→List Nat→Sg)(anE:Sg→List (List Nat)→Int)(anS:Sg→List (List Nat)→Sg)(s:Sg)(sb:Nat)(jp:Addr)(F:Nat→Prop)(M:Nat)(g:ByteArray→Option A)(cs:List Ch)(w:World)(e:Ending)(w':World):Prop :=
 ∃O' S' b' n' c s' g',e=.returned (.int .i64 c)∧StoreAt base JS O' S' w' sb jp b' n' s' g'∧Commits apE apS anE anS s g cs c s' g'∧n'≤M∧Chg F w w'∧∀k,Ft O' S' sb b' k→F k∨w.heap.size≤k
theorem StoreAt.below(HJ:Jour base JS good tx apE apS anE anS){O S:Nat→Prop}{sb b n:Nat}{jp:Addr}{s:Sg}{g:ByteArray→Option A}{w w':World}(H:StoreAt base JS O S w sb jp b n s g)(hbw:base≤w.heap.size)(hB:Below w.heap.size w w'):StoreAt base JS O (fun k=>S k∧k<w.heap.size) w' sb jp b n s g :=
 {at_:=⟨Nat.lt_of_lt_of_le H.at_.1 hB.size,(hB.block _ H.at_.1).trans H.at_.2⟩
  map:=H.map.keep (fun h=>H.map.1 h.1) (fun k h1 h2=>⟨h1,h2⟩) hB.size (fun k _ h2=>hB.block k h2) (fun f hf=>hf.below hB)
  jour:=HJ.keep O w w' jp s H.jour (ext_below hB) (fun k hk=>hB.block k (HJ.lt O w jp s H.jour k hk).2) (fun k hk=>hB.block k (by omega))
  osb:=H.osb
  ob:=H.ob
  os:=fun k hk=>H.os k hk.1
  ne:=H.ne
  ssb:=fun h=>H.ssb h.1
  bb:=H.bb
  bsb:=H.bsb
  bs:=fun k hk=>H.bs k hk.1 }
set_option maxRecDepth 100000 in
set_option maxHeartbeats 4000000 in
theorem commit_any(HJ:Jour base JS good tx apE apS anE anS)(O S:Nat→Prop)(sb b n:Nat)(jp:Addr)(s:Sg)(g:ByteArray→Option A)(w:World)(H:StoreAt base JS O S w sb jp b n s g)(hgood:good s)(hbw:base≤w.heap.size)
  (v:Value) (cs:List Ch) (hcs:ChRow w v cs) (hl:cs.length≤1000) (hn:n≤900000) (hs:sz (trA cs) 0≤140737488355328) (htr:er (trA cs) 0=0→trOf (bys (prt (trA cs)))=some cs) (hck:∀c∈cs,c.1.size≤maxLen)
  (hg6:er (trA cs) 0=0→apE s (bys (prt (trA cs)))=6→good (apS s (bys (prt (trA cs))))∧Small (cs.foldl chF g)) :
  Calls Tryz.prog 16 #[.pointer (some ⟨sb,0,none⟩),v] w (CommitQ base JS apE apS anE anS s sb jp (Ft O S sb b) (n+cs.length) g cs w):=by
 have HP:=Lib.hid (printed_tr cs v w hcs (by omega) hs)
 unfold PrintQ at HP
 obtain⟨p0,cap0,rfl,_,_⟩:=hcs
 obtain⟨x0,hx0⟩:∃x,er (trA cs) 0=x:=⟨_,rfl⟩
 obtain⟨s0,hs0⟩:∃x,prt (trA cs)=x:=⟨_,rfl⟩
 rw[hx0,hs0]at HP
 have HH:=Lib.hid H
 have HE:=Lib.hid (And.intro hx0 hs0)
 have HTR:=Lib.hid htr
 have HG6:=Lib.hid hg6
 have HCK:=Lib.hid hck
 clear H hs htr hg6 hck hx0 hs0
 go_enter Tryz.func16,Tryz.ntmps16
 go_wp2_with fail
 refine HP.out.mono ?_
 rintro e w1 ⟨rfl,hB1⟩
 have HB1:=Lib.hid hB1
 clear HP hB1
 by_cases h0:x0=0
 ·subst h0
  have h8:∀c∈bys s0,c<256:=bys_lt s0
  have HRT:=Lib.hid (readT_any (bys s0) h8 w1)
  rw[mkS_bys]at HRT
  have htr:trOf (bys s0)=some cs:=by have:=HTR.out HE.out.1;rwa [HE.out.2]at this
  rw[htr]at HRT
  clear htr
  go_wp2_with fail
  refine HRT.out.mono ?_
  rintro e w2 ⟨hB2,⟨h,_⟩ | ⟨cs',cv,hcs',rfl,hA⟩⟩
  ·cases h
  obtain rfl:cs=cs':=Option.some.inj hcs'
  obtain⟨ab,rfl⟩:∃ab,cv=.func (.func 55) #[] #[.pointer (some ⟨ab,0,none⟩)]:=by obtain⟨ab,_,_,h,_⟩:=hA;exact⟨ab,h⟩
  have hz1:=HB1.out.size
  have hz2:=hB2.size
  have hB12:=HB1.out.trans (hB2.mono hz1)
  have hJ2:=HJ.keep O w w2 jp s HH.out.jour (ext_below hB12) (fun k hk=>hB12.block k (HJ.lt O w jp s HH.out.jour k hk).2) (fun k hk=>hB12.block k (by omega))
  have HAP:=Lib.hid (HJ.append O w2 jp s (bys s0) hJ2 hgood h8)
  rw[mkS_bys]at HAP
  obtain⟨x,hx⟩:∃x,apE s (bys s0)=x:=⟨_,rfl⟩
  obtain⟨s1,hs1⟩:∃x,apS s (bys s0)=x:=⟨_,rfl⟩
  rw[hx,hs1]at HAP
  have HX:=Lib.hid (And.intro hx hs1)
  have HF:Hid (∀(O':Nat→Prop) (w3:World),JS O' w3 jp s1→Chg O w2 w3→(∀k,O' k→O k∨w2.heap.size≤k) →
    StoreAt base JS O' (fun k=>(S k∧k<w.heap.size)∨(w1.heap.size≤k∧k<w2.heap.size)) w3 sb jp b n s1 g∧AllAt w3 (fun k=>w1.heap.size≤k∧k<w2.heap.size) (.func (.func 55) #[] #[.pointer (some ⟨ab,0,none⟩)]) cs∧Chg O w w3∧w.heap.size≤w3.heap.size∧w2.heap.size≤w3.heap.size):=Lib.hid fun O' w3 k1 k2 k3=>by
   obtain⟨Hat,Hmap,Hj,hosb,hob,hos,hne,hssb,hbb,hbsb,hbs⟩:=HH.out
   have hsl:=Hat.1
   have hbl:=Hmap.lt
   have hOl:∀k,O k→k<w.heap.size:=fun k hk=>(HJ.lt O w jp s Hj k hk).2
   have hz3:=k2.1.size
   have hsame:∀k,k<w.heap.size→¬O k→w3.heap[k]?=w.heap[k]?:=fun k hk ho=>(k2.2 k (by omega) ho).trans (hB12.block k hk)
   have hO':∀k,k<w2.heap.size→¬O k→¬O' k:=fun k hk ho h=>by
    rcases k3 k h with h | h
    ·exact ho h
    ·omega
   refine⟨?_,hA.keep (fun k h1 h2=>⟨h1,h2⟩) hz3 (fun k h1 h2=>k2.2 k h2 (fun h=>by have:=hOl k h;omega)),⟨(ext_below hB12).trans k2.1,hsame⟩,by omega,hz3⟩
   exact
   {at_:=⟨by omega,(hsame sb hsl hosb).trans Hat.2⟩
    map:=Hmap.keep (fun h=>by rcases h with h | h;exact Hmap.1 h.1;omega) (fun k h1 h2=>Or.inl ⟨h1,h2⟩) (by omega) (fun k h1 h2=>hsame k h2 (hos k h1)) (fun f hf=>hf.same (hsame _ hbl hob))
    jour:=k1
    osb:=hO' sb (by omega) hosb
    ob:=hO' b (by omega) hob
    os:=fun k hk=>by
     rcases hk with hk | hk
     ·exact hO' k (by omega) (hos k hk.1)
     ·exact hO' k hk.2 (fun h=>by have:=hOl k h;omega)
    ne:=hne
    ssb:=fun h=>by rcases h with h | h;exact hssb h.1;omega
    bb:=hbb
    bsb:=hbsb
    bs:=fun k hk=>by rcases hk with hk | hk;exact hbs k hk.1;omega }
  have HOl:Hid (∀k,O k→k<w.heap.size):=Lib.hid fun k hk=>(HJ.lt O w jp s HH.out.jour k hk).2
  obtain⟨d0,_⟩:=cells2 ((hB12.block sb HH.out.at_.1).trans HH.out.at_.2)
  clear hA hB2 hB12 hJ2 hx hs1
  go_wp2_with fail
  refine HAP.out.mono ?_
  rintro e w3 ⟨O',rfl,hJ3,hC3,hO3⟩
  obtain⟨h3,hA3,hC,hz3,hz23⟩:=HF.out O' w3 hJ3 hC3 hO3
  have hHH:=HH.out
  have HO3:=Lib.hid hO3
  have HC:=Lib.hid hC
  have H3:=Lib.hid h3
  have HA3:=Lib.hid hA3
  clear hJ3 hC3 hO3 HF HAP HRT
  obtain⟨c0,c1⟩:=cells2 h3.at_.2
  have hS0:∀k,((S k∧k<w.heap.size)∨(w1.heap.size≤k∧k<w2.heap.size))→k<w3.heap.size:=fun k hk=>by rcases hk with hk | hk <;> omega
  have hFt:Hid (∀k,O' k∨(S k∧k<w.heap.size)∨(w1.heap.size≤k∧k<w2.heap.size)∨k=b∨k=sb→Ft O S sb b k∨w.heap.size≤k):=Lib.hid fun k hk=>by
   rcases hk with h | h | h | h | h
   ·rcases HO3.out k h with h | h
    ·exact Or.inl (Or.inl h)
    ·exact Or.inr (by omega)
   ·exact Or.inl (Or.inr (Or.inl h.1))
   ·exact Or.inr (by omega)
   ·exact Or.inl (Or.inr (Or.inr (Or.inl h)))
   ·exact Or.inl (Or.inr (Or.inr (Or.inr h)))
  by_cases hx0:x=0
  ·subst hx0
   have HD:=Lib.hid (doAll_any ab cs hl HCK.out (fun k=>(S k∧k<w.heap.size)∨(w1.heap.size≤k∧k<w2.heap.size)) (fun k=>w1.heap.size≤k∧k<w2.heap.size) (fun k hk=>Or.inr hk) b n (by omega) g w3 h3.map hA3)
   have hfin:Hid (∀w5,MapA w5 (fun k=>(S k∧k<w.heap.size)∨(w1.heap.size≤k∧k<w2.heap.size)) b (n+cs.length) (cs.foldl chF g)→w3.grownBy w5 (some b)→CommitQ base JS apE apS anE anS s sb jp (Ft O S sb b) (n+cs.length) g cs w (.returned (.int .i64 0)) w5):=Lib.hid fun w5 j2 j3=>by
    have hz5:=j3.size
    have hsl:=h3.at_.1
    have hn5:∀k,k<w3.heap.size→k≠b→w5.heap[k]?=w3.heap[k]?:=fun k hk hne=>j3.block k hk (fun e=>hne (by cases e;rfl))
    have hlt:=HJ.lt O' w3 jp s1 h3.jour
    refine⟨O',(fun k=>(S k∧k<w.heap.size)∨(w1.heap.size≤k∧k<w2.heap.size)),b,n+cs.length,0,s1,cs.foldl chF g,rfl,?_,Or.inr ⟨HE.out.1,Or.inl ?_⟩,Nat.le_refl _,⟨hC.1.trans (ext_grown j3),fun k hk hF=>?_⟩,fun k hk=>?_⟩
    ·exact
     {at_:=⟨by omega,(hn5 sb hsl h3.ne).trans h3.at_.2⟩
      map:=j2
      jour:=HJ.keep O' w3 _ jp _ h3.jour (ext_grown j3) (fun k hk=>hn5 k (hlt k hk).2 (fun e=>h3.ob (e▸hk))) (fun k hk=>hn5 k (by omega) (by have:=h3.bb;omega))
      osb:=h3.osb
      ob:=h3.ob
      os:=h3.os
      ne:=h3.ne
      ssb:=h3.ssb
      bb:=h3.bb
      bsb:=h3.bsb
      bs:=h3.bs }
    ·rw[HE.out.2,HX.out.1,HX.out.2];exact⟨rfl,rfl,rfl,rfl⟩
    ·rw[hn5 k (by omega) (fun e=>hF (Or.inr (Or.inr (Or.inl e))))]
     exact hC.2 k hk (fun h=>hF (Or.inl h))
    ·refine hFt.out k ?_
     rcases hk with h | h | h | h
     ·exact Or.inl h
     ·rcases h with h | h
      ·exact Or.inr (Or.inl h)
      ·exact Or.inr (Or.inr (Or.inl h))
     ·exact Or.inr (Or.inr (Or.inr (Or.inl h)))
     ·exact Or.inr (Or.inr (Or.inr (Or.inr h)))
   clear HH HE HTR HG6 HCK HB1 h3 hA3 hC hHH H3 HA3 hS0 hFt
   go_wp2_with fail
   refine HD.out.mono ?_
   rintro e w5 ⟨rfl,j2,j3⟩
   have HQ:=Lib.hid (hfin.out w5 j2 j3)
   clear j2 j3
   go_wp2
   go_ret
   exact HQ.out
  ·by_cases hx6:x=6
   ·subst hx6
    have HD:=Lib.hid (mapClone_any _ b n g w3 h3.map (fun h=>by have:=hS0 _ h;omega))
    obtain⟨hgo,hsm⟩:=HG6.out HE.out.1 (by rw[HE.out.2];exact HX.out.1)
    rw[HE.out.2,HX.out.2]at hgo
    have hfin:Hid (∀w4 w5,Below w3.heap.size w3 w4→MapA w5 (fun k=>(S k∧k<w.heap.size)∨(w1.heap.size≤k∧k<w2.heap.size)) w3.heap.size (n+cs.length) (cs.foldl chF g)→w4.grownBy w5 (some w3.heap.size) →
      Calls Tryz.prog 36 #[.pointer (some ⟨sb,0,none⟩),.map (some w3.heap.size)] w5 fun e w6=>∃c,e=.returned (.int .i64 c)∧CommitQ base JS apE apS anE anS s sb jp (Ft O S sb b) (n+cs.length) g cs w (.returned (.int .i64 c)) w6):=Lib.hid fun w4 w5 j1 j2 j3=>by
     have hz4:=j1.size
     have hz5:=j3.size
     have hB5:Below w3.heap.size w3 w5:=j1.grown j3 hz4 (fun k hk=>by cases hk;exact Nat.le_refl _)
     have hlt:=HJ.lt O' w3 jp s1 h3.jour
     have hsl:=h3.at_.1
     have H5:=h3.below HJ (by omega) hB5
     have hm5:=j2.keep (T:=fun k=>((S k∧k<w.heap.size)∨(w1.heap.size≤k∧k<w2.heap.size))∧k<w3.heap.size) (fun h=>by have:=h.2;omega) (fun k h _=>⟨h,hS0 k h⟩) (Nat.le_refl _) (fun _ _ _=>rfl) (fun _ h=>h)
     refine(anew_any HJ O' _ sb b n w3.heap.size (n+cs.length) jp s1 g (cs.foldl chF g) w5 H5 hgo hm5 (by omega) (fun h=>by have:=(hlt _ h).2;omega) (by omega) (by omega) (by omega) (fun k hk=>by have:=hsm.key k hk;unfold maxLen;omega) hsm.size).mono ?_
     rintro e w6 ⟨ks,O6,S6,b6,n6,q1,q2,q3,q4,q5,q6⟩
     have hF6:∀k,(Ft O' (fun k=>((S k∧k<w.heap.size)∨(w1.heap.size≤k∧k<w2.heap.size))∧k<w3.heap.size) sb b k∨k=w3.heap.size)→Ft O S sb b k∨w.heap.size≤k:=fun k hk=>by
      rcases hk with(h | h | h | h) | h
      ·exact hFt.out k (Or.inl h)
      ·rcases h.1 with h | h
       ·exact hFt.out k (Or.inr (Or.inl h))
       ·exact hFt.out k (Or.inr (Or.inr (Or.inl h)))
      ·exact hFt.out k (Or.inr (Or.inr (Or.inr (Or.inl h))))
      ·exact hFt.out k (Or.inr (Or.inr (Or.inr (Or.inr h))))
      ·exact Or.inr (by omega)
     refine⟨_,q2,O6,S6,b6,n6,_,_,_,rfl,q3,Or.inr ⟨HE.out.1,Or.inr (Or.inl ?_)⟩,by omega,⟨(hC.1.trans (ext_below hB5)).trans q5.1,fun k hk hF=>?_⟩,fun k hk=>?_⟩
     ·rw[HE.out.2,HX.out.1,HX.out.2];exact⟨rfl,ks,q1,rfl,rfl,rfl⟩
     ·rw[q5.2 k (by omega) (fun h=>by rcases hF6 k h with h | h;exact hF h;omega),hB5.block k (by omega)]
      exact hC.2 k hk (fun h=>hF (Or.inl h))
     ·rcases q6 k hk with h | h
      ·exact hF6 k h
      ·exact Or.inr (by omega)
    have hdo:Hid (∀w4,MapA w4 (fun k=>(S k∧k<w.heap.size)∨(w1.heap.size≤k∧k<w2.heap.size)) w3.heap.size n g→Below w3.heap.size w3 w4→Calls Tryz.prog 55 #[.map (some w3.heap.size),.pointer (some ⟨ab,0,none⟩)] w4 (DoneQ (fun k=>(S k∧k<w.heap.size)∨(w1.heap.size≤k∧k<w2.heap.size)) w3.heap.size (n+cs.length) (cs.foldl chF g) w4)):=Lib.hid fun w4 j1 j2 =>
     doAll_any ab cs hl HCK.out _ (fun k=>w1.heap.size≤k∧k<w2.heap.size) (fun k hk=>Or.inr hk) w3.heap.size n (by omega) g w4 j1 (hA3.keep (fun _ h _=>h) j2.size (fun k _ hk=>j2.block k hk))
    clear HH HE HTR HG6 HCK HB1 h3 hA3 hC hHH H3 HA3 hS0 hFt
    go_wp2_with fail
    refine HD.out.mono ?_
    rintro e w4 ⟨rfl,j1,_,j3⟩
    have HD4:=Lib.hid (hdo.out w4 j1 j3)
    have HB4:=Lib.hid j3
    clear j1 j3 HD hdo
    go_wp2_with fail
    refine HD4.out.mono ?_
    rintro e w5 ⟨rfl,j2,j3⟩
    have HD5:=Lib.hid (hfin.out w4 w5 HB4.out j2 j3)
    clear j2 j3 HD4 hfin
    go_wp2_with fail
    refine HD5.out.mono ?_
    rintro e w6 ⟨c,rfl,hQ⟩
    have HQ:=Lib.hid hQ
    clear hQ HD5
    go_wp2
    go_ret
    exact HQ.out
   ·have HD:=Lib.hid (down_any sb b (some jp) w3 h3.at_)
    have hfin:Hid (∀w5,SAt w5 sb (some jp) w3.heap.size→MapA w5 (fun _=>False) w3.heap.size 0 (fun _=>none)→w3.grownBy w5 (some sb)→CommitQ base JS apE apS anE anS s sb jp (Ft O S sb b) (n+cs.length) g cs w (.returned (.int .i64 7)) w5):=Lib.hid fun w5 j1 j2 j3=>by
     have hz5:=j3.size
     have hsl:=hHH.at_.1
     have hn5:∀k,k<w3.heap.size→k≠sb→w5.heap[k]?=w3.heap[k]?:=fun k hk hne=>j3.block k hk (fun e=>hne (by cases e;rfl))
     have hlt:=HJ.lt O' w3 jp s1 h3.jour
     refine⟨O',fun _=>False,w3.heap.size,0,7,s1,fun _=>none,rfl,?_,Or.inr ⟨HE.out.1,Or.inr (Or.inr ?_)⟩,Nat.zero_le _,⟨hC.1.trans (ext_grown j3),fun k hk hF=>?_⟩,fun k hk=>?_⟩
     ·exact
      {at_:=j1
       map:=j2
       jour:=HJ.keep O' w3 _ jp _ h3.jour (ext_grown j3) (fun k hk=>hn5 k (hlt k hk).2 (fun e=>h3.osb (e▸hk))) (fun k hk=>hn5 k (by omega) (by have:=h3.bsb;omega))
       osb:=h3.osb
       ob:=fun h=>by have:=(hlt _ h).2;omega
       os:=fun k hk=>hk.elim
       ne:=by omega
       ssb:=fun h=>h
       bb:=by omega
       bsb:=h3.bsb
       bs:=fun k hk=>hk.elim }
     ·rw[HE.out.2,HX.out.1,HX.out.2];exact⟨hx0,hx6,rfl,rfl,rfl⟩
     ·rw[hn5 k (by omega) (fun e=>hF (Or.inr (Or.inr (Or.inr e))))]
      exact hC.2 k hk (fun h=>hF (Or.inl h))
     ·rcases hk with h | h | h | h
      ·rcases HO3.out k h with h | h
       ·exact Or.inl (Or.inl h)
       ·exact Or.inr (by omega)
      ·exact h.elim
      ·exact Or.inr (by omega)
      ·exact Or.inl (Or.inr (Or.inr (Or.inr h)))
    clear HH HE HTR HG6 HCK HB1 h3 hA3 hC hHH H3 HA3
    go_wp2_with fail
    refine HD.out.mono ?_
    rintro e w5 ⟨rfl,j1,j2,j3⟩
    have HQ:=Lib.hid (hfin.out w5 j1 j2 j3)
    clear j1 j2 j3
    go_wp2
    go_ret
    exact HQ.out
 ·have HQ:Hid (CommitQ base JS apE apS anE anS s sb jp (Ft O S sb b) (n+cs.length) g cs w (.returned (.int .i64 x0)) w1):=Lib.hid
   ⟨O,_,b,n,x0,s,g,rfl,HH.out.below HJ hbw HB1.out,Or.inl ⟨by rw[HE.out.1];exact h0,HE.out.1.symm,rfl,rfl⟩,by omega,⟨ext_below HB1.out,fun k hk _=>HB1.out.block k hk⟩,fun k hk=>Or.inl (by
    rcases hk with h | h | h
    ·exact Or.inl h
    ·exact Or.inr (Or.inl h.1)
    ·exact Or.inr (Or.inr h))⟩
  have hb0:(x0 == 0)=false:=by simpa using h0
  clear HH HE HTR HG6 HCK HB1
  go_wp2
  go_ret
  exact HQ.out
end
end Go.Proofs.YtlogjpmdfimgdaaGreatDoor
namespace Go.Proofs.YtlogjpmdfimgdaaGreatDoor
open Go Go.RowKit Go.Own Go.Maps Go.WideMaps
theorem chOf_chA(c:Ch):chOf (chA c)=some c:=by
 obtain⟨k,o⟩:=c
 cases o <;> rfl
theorem chsOf_chA:∀cs:List Ch,chsOf (cs.map chA)=some cs
 | []=>rfl
 |c :: cs=>by
  show (match chOf (chA c),chsOf (cs.map chA)with | some c,some cs=>some (c :: cs) | _,_=>none)=_
  rw[chOf_chA,chsOf_chA cs]
theorem okA_trA{cs:List Ch}(h:∀c∈cs,∀a,c.2=some a→okA a):okA (trA cs):=by
 unfold trA
 rw[okA,okAs_all]
 intro x hx
 obtain⟨c,hc,rfl⟩:=List.mem_map.1 hx
 have:=h c hc
 obtain⟨k,o⟩:=c
 cases o with
 |none=>simp[chA,okA,okAs]
 |some a=>simp[chA,okA,okAs,this a rfl]
theorem trOf_prt{cs:List Ch}(he:er (trA cs) 0=0)(h:∀c∈cs,∀a,c.2=some a→okA a):trOf (bys (prt (trA cs)))=some cs:=by
 unfold prt
 rw[if_pos he,bys_mkS _ (pr_lt _),trOf,pa_pr he (okA_trA h)]
 exact chsOf_chA cs
theorem er_trA{cs:List Ch}(he:er (trA cs) 0=0):cs.length≤255∧∀c∈cs,c.1.size≤65535∧∀a,c.2=some a→er a 2=0:=by
 obtain⟨h1,h2⟩:=er_list he
 obtain⟨_,h4⟩:=chsOf_keys (cs.map chA) cs (chsOf_chA cs) h2
 rw[List.length_map]at h1
 exact⟨h1,h4⟩
theorem Small.chF{g:ByteArray→Option A}(h:Small g){c:Ch}(h1:c.1.size≤65535)(h2:∀a,c.2=some a→sz a 2≤1000000000000):Small (Go.Own.chF g c):=by
 refine⟨fun k hk=>?_,fun k a ha=>?_⟩
 ·unfold Go.Own.chF at hk
  split at hk
  ·rename_i e;rw[e];exact h1
  ·exact h.key k hk
 ·unfold Go.Own.chF at ha
  split at ha
  ·exact h2 a ha
  ·exact h.val k a ha
theorem Small.fold:∀(cs:List Ch) (g:ByteArray→Option A),Small g→(∀c∈cs,c.1.size≤65535∧∀a,c.2=some a→sz a 2≤1000000000000)→Small (cs.foldl Go.Own.chF g)
 | [],_,h,_=>h
 |c :: cs,_,h,hc=>Small.fold cs _ (h.chF (hc c List.mem_cons_self).1 (hc c List.mem_cons_self).2) fun c' h'=>hc c' (List.mem_cons_of_mem _ h')
theorem small_none:Small (fun _=>(none:Option A)) where
 key:=fun _ h=>by cases h
 val:=fun _ _ h=>by cases h
end Go.Proofs.YtlogjpmdfimgdaaGreatDoor
namespace Go.Proofs.YtlogjpmdfimgdaaGreatDoor
open Go Go.RowKit Go.Own Go.Own.Fr Go.Maps Go.WideMaps
def InCh(w:World)(v:Value)(l:List (ByteArray×V×Bool)):Prop :=
 ∃p cap,v=.slice p l.length cap∧l.length≤cap∧∀(j:Nat) (x:ByteArray×V×Bool),l[j]?=some x→∃b o c0 c1 c2 c3 c4,p=some ⟨b,o,none⟩∧b<w.heap.size∧w.cell? ⟨b,o+j*7,none⟩=some (.string x.1) ∧
  w.cell? ⟨b,o+j*7+1,none⟩=some c0∧w.cell? ⟨b,o+j*7+2,none⟩=some c1∧w.cell? ⟨b,o+j*7+3,none⟩=some c2∧w.cell? ⟨b,o+j*7+4,none⟩=some c3∧w.cell? ⟨b,o+j*7+5,none⟩=some c4∧w.cell? ⟨b,o+j*7+6,none⟩=some (.bool x.2.2) ∧
  Holds w (.agg #[c0,c1,c2,c3,c4]) x.2.1
def AgP(B:Nat)(k:ByteArray)(a:A)(gone:Bool)(v:Value)(W:World):Prop:=∃u,v=.agg #[.string k,u,.bool gone]∧AAt W (fun b=>B≤b) u a
def Sl3(B:Nat)(k:ByteArray)(a:A)(gone:Bool)(v:Value)(W:World):Prop:=∃b u,v=.slice (some ⟨b,0,none⟩) 1 1∧B≤b∧b<W.heap.size∧W.heap[b]?=some (.cells #[.string k,u,.bool gone] 66 (0,0))∧AAt W (fun b=>B≤b) u a
def AaP(B:Nat)(a:A)(v:Value)(W:World):Prop:=AAt W (fun b=>B≤b) v a
theorem AaP_last(B:Nat)(a:A):Lasts (AaP B a):=fun _ _ W' h hB=>AAt.keep (w':=W') h (fun _ h _=>h) hB.size (fun b _ hlt=>hB.block b hlt)
theorem AgP_last(B:Nat)(k:ByteArray)(a:A)(gone:Bool):Lasts (AgP B k a gone):=by
 rintro v W W' ⟨u,h1,h2⟩ hB
 exact⟨u,h1,AaP_last B a u W W' h2 hB⟩
theorem Sl3_last(B:Nat)(k:ByteArray)(a:A)(gone:Bool):Lasts (Sl3 B k a gone):=by
 rintro v W W' ⟨b,u,h1,h2,h3,h4,h5⟩ hB
 exact⟨b,u,h1,h2,Nat.lt_of_lt_of_le h3 hB.size,(hB.block b h3).trans h4,AaP_last B a u W W' h5 hB⟩
section
variable{ρ:Operand→Value}{W:World}{dst:Option Tmp}{ty:TypeId}{pos:String}{after:Array Edge}{guard:Option (Nat×Bool)}{v r:Value}{x y z:Operand}
theorem exec_ix38{b o n c k:Nat}(h1:ρ x=.slice (some ⟨b,o,none⟩) n c)(h2:ρ y=.int .i64 (k:Int))(hk:k<n):(execOp ρ { dst,op:=.indexAddr 38 x y,type:=ty,pos,after,guard }).run Tryz.prog W=.ok (.value (.pointer (some ⟨b,o+k*7,none⟩))) W:=by
 have hki:(k:Int)<(n:Int):=by omega
 have hk0:(0:Int)≤(k:Int):=by omega
 simp[execOp,h1,h2,go_sem,hki,hk0]
theorem fa61(b o:Nat)(W:World):(Instr.fieldAt 61 (.pointer (some ⟨b,o,none⟩)) 0).run Tryz.prog W=.ok (.pointer (some ⟨b,o,none⟩)) W∧(Instr.fieldAt 61 (.pointer (some ⟨b,o,none⟩)) 1).run Tryz.prog W=.ok (.pointer (some ⟨b,o+1,none⟩)) W∧(Instr.fieldAt 61 (.pointer (some ⟨b,o,none⟩)) 2).run Tryz.prog W=.ok (.pointer (some ⟨b,o+6,none⟩)) W:=by
 refine⟨?_,?_,?_⟩ <;> simp[go_sem]
theorem ld9o{b o:Nat}{s:ByteArray}(h:W.cell? ⟨b,o,none⟩=some (.string s)):(Instr.loadAt 9 (.pointer (some ⟨b,o,none⟩))).run Tryz.prog W=.ok (.string s) W:=by
 simp[Instr.loadAt,go_sem,h]
theorem ld4o{b o:Nat}{s:Bool}(h:W.cell? ⟨b,o,none⟩=some (.bool s)):(Instr.loadAt 4 (.pointer (some ⟨b,o,none⟩))).run Tryz.prog W=.ok (.bool s) W:=by
 simp[Instr.loadAt,go_sem,h]
theorem ld59o{b o:Nat}{c0 c1 c2 c3 c4:Value}(h0:W.cell? ⟨b,o,none⟩=some c0)(h1:W.cell? ⟨b,o+1,none⟩=some c1)(h2:W.cell? ⟨b,o+2,none⟩=some c2)(h3:W.cell? ⟨b,o+3,none⟩=some c3)(h4:W.cell? ⟨b,o+4,none⟩=some c4):(Instr.loadAt 59 (.pointer (some ⟨b,o,none⟩))).run Tryz.prog W=.ok (.agg #[c0,c1,c2,c3,c4]) W:=by
 simp[Instr.loadAt,go_sem,h0,h1,h2,h3,h4]
theorem exec_bd66{k:ByteArray}{u:Value}{g:Bool}(h1:ρ x=.string k)(h2:ρ y=u)(h3:ρ z=.bool g)(hu:(∃t x,u=.iface t x)∨u=.nilIface):(execOp ρ { dst,op:=.build 66 #[(0,x),(1,y),(2,z)],type:=ty,pos,after,guard }).run Tryz.prog W=.ok (.value (.agg #[.string k,u,.bool g])) W:=by
 rcases hu with⟨t,x,rfl⟩ | rfl <;> simp[execOp,h1,h2,h3,go_sem]
theorem exec_bs53{k:ByteArray}{u:Value}{g:Bool}(h1:ρ x=.agg #[.string k,u,.bool g])(hu:(∃t x,u=.iface t x)∨u=.nilIface):(execOp ρ { dst,op:=.buildSlice 53 1 #[(0,x)],type:=ty,pos,after,guard }).run Tryz.prog W=.ok (.value (.slice (some ⟨W.heap.size,0,none⟩) 1 1)) (W.alloc (.cells #[.string k,u,.bool g] 66)):=by
 have hb:(Instr.buildSlice 53 1 #[(0,.agg #[.string k,u,.bool g])]).run Tryz.prog W=.ok (.slice (some ⟨W.heap.size,0,none⟩) 1 1) (W.alloc (.cells #[.string k,u,.bool g] 66)):=by
  rcases hu with⟨t,x,rfl⟩ | rfl <;> kernel_rfl
 unfold execOp
 simp only[List.map_toArray,List.map_cons,List.map_nil,h1,Sem.run_bind,hb,Result.andThen_ok]
 rfl
end
end Go.Proofs.YtlogjpmdfimgdaaGreatDoor
namespace Go.Proofs.YtlogjpmdfimgdaaGreatDoor
open Go Go.RowKit Go.Own Go.Own.Fr Go.Maps Go.WideMaps
def chV(x:ByteArray×V×Bool):Ch:=(x.1,if x.2.2 then none else some (ofV x.2.1))
def chG(l:List (ByteArray×Value×Bool)):List Value:=l.flatMap fun x=>[.string x.1,x.2.1,.bool x.2.2]
def ChI(w:World)(l:List (ByteArray×V×Bool))(wr:World)(v:Value)(j:Nat):Prop :=
 ∃us:List (ByteArray×Value×Bool),us.length=j∧wr.ownsRow w.heap.size 66 3 v j (chG us)∧Below w.heap.size w wr∧∀(i:Nat) (u:ByteArray×Value×Bool),us[i]?=some u→∃x,l[i]?=some x∧u.1=x.1∧u.2.2=x.2.2∧AAt wr (fun b=>some b≠v.ownBlock) u.2.1 (ofV x.2.1)
theorem ChI.step{w wr w3 w4:World}{l:List (ByteArray×V×Bool)}{v v':Value}{j:Nat}{x:ByteArray×V×Bool}{u:Value}{us:List (ByteArray×Value×Bool)}(h1:us.length=j)(h2:wr.ownsRow w.heap.size 66 3 v j (chG us))(h3:Below w.heap.size w wr)
  (h4:∀(i:Nat) (u:ByteArray×Value×Bool),us[i]?=some u→∃x,l[i]?=some x∧u.1=x.1∧u.2.2=x.2.2∧AAt wr (fun b=>some b≠v.ownBlock) u.2.1 (ofV x.2.1)) (hx:l[j]?=some x) (hB3:Below wr.heap.size wr w3) (hu:AAt w3 (fun b=>wr.heap.size≤b) u (ofV x.2.1))
  (hO4:w4.ownsRow w.heap.size 66 3 v' (j+1) (chG us++[.string x.1,u,.bool x.2.2])) (hG4:w3.grownBy w4 v.ownBlock) (hv:v'.ownBlock=v.ownBlock∨v'.ownBlock=some w3.heap.size):ChI w l w4 v' (j+1):=by
 have hz3:=hB3.size
 have hz4:=hG4.size
 have hzr:=h3.size
 refine⟨us++[(x.1,u,x.2.2)],by simp[h1],?_,(h3.trans (hB3.mono hzr)).grown hG4 (by omega) (fun k hk=>(h2.lt k hk).1),fun i u' hu'=>?_⟩
 ·unfold chG at hO4 ⊢
  rw[List.flatMap_append]
  exact hO4
 ·have hkeep:∀ {y:Value} {a:A} {S:Nat→Prop},AAt w3 S y a→(∀k,S k→k<w3.heap.size→some k≠v.ownBlock)→AAt w4 (fun b=>some b≠v'.ownBlock) y a:=fun {y a S} h hS =>
   h.keep (fun k hk hlt e=>by
    rcases hv with hv | hv
    ·exact hS k hk hlt (by rw[←hv];exact e)
    ·rw[hv]at e;cases e;omega) hz4 (fun k hk hlt=>hG4.block k hlt (hS k hk hlt))
  by_cases e:i<j
  ·rw[List.getElem?_append_left (by omega)]at hu'
   obtain⟨x',e1,e2,e3,e4⟩:=h4 i u' hu'
   have e5:AAt w3 (fun b=>some b≠v.ownBlock) u'.2.1 (ofV x'.2.1):=e4.keep (fun _ h _=>h) hz3 (fun k _ hk=>hB3.block k hk)
   exact⟨x',e1,e2,e3,hkeep e5 fun k hk _=>hk⟩
  ·have hi:i=j:=by
    have:=(List.getElem?_eq_some_iff.1 hu').1
    simp[h1]at this
    omega
   subst hi
   rw[List.getElem?_append_right (by omega),h1,Nat.sub_self]at hu'
   simp at hu'
   subst hu'
   exact⟨x,hx,rfl,rfl,hkeep hu fun k hk _ e=>by have:=(h2.lt k e.symm).2;omega⟩
theorem chG_get:∀(l:List (ByteArray×Value×Bool)) (j:Nat) (x:ByteArray×Value×Bool),l[j]?=some x→(chG l)[j*3]?=some (.string x.1)∧(chG l)[j*3+1]?=some x.2.1∧(chG l)[j*3+2]?=some (.bool x.2.2)
 | [],j,x,h=>by simp at h
 |y :: r,0,x,h=>by
  simp at h
  subst h
  exact⟨rfl,rfl,rfl⟩
 |y :: r,j+1,x,h=>by
  have h1:=chG_get r j x (by simpa using h)
  have e:chG (y :: r)=.string y.1 :: y.2.1 :: .bool y.2.2 :: chG r:=rfl
  rw[e,show (j+1)*3=j*3+1+1+1 by omega,show j*3+1+1+1+1=(j*3+1)+1+1+1 by omega,show j*3+1+1+1+2=(j*3+2)+1+1+1 by omega]
  simp only[List.getElem?_cons_succ]
  exact h1
def ChaQ(l:List (ByteArray×V×Bool))(w:World)(e:Ending)(w':World):Prop:=∃v,e=.returned v∧ChRow w' v (l.map chV)∧Below w.heap.size w w'
set_option maxRecDepth 100000 in
set_option maxHeartbeats 4000000 in
theorem changes_any(l:List (ByteArray×V×Bool))(lv:Value)(w:World)(h:InCh w lv l)(hl:l.length≤1000)(hf:∀x∈l,fewV x.2.1 1=true∧x.1.size≤100000):Calls Tryz.prog 17 #[lv] w (ChaQ l w):=by
 obtain⟨p,c,rfl,hcap,hrow⟩:=h
 obtain⟨n,hn⟩:∃n,l.length=n:=⟨_,rfl⟩
 have HN:=Lib.hid hn
 have HRW:=Lib.hid hrow
 have HF:=Lib.hid hf
 rw[hn]at hcap hl ⊢
 clear hrow hn hf
 go_enter Tryz.func17,Tryz.ntmps17
 go_wp2
 go_loopw [3,4] (fun v i wr=>∃j:Nat,j≤n∧i=.int .i64 (j:Int)∧Hid (ChI w l wr v j)) (fun _ i _=>n-(intOf i).toNat)
 case atStart=>exact⟨0,Nat.zero_le _,rfl,Lib.hid ⟨[],rfl,World.ownsRow_nil w w.heap.size 66 3,Below.refl _ _,fun i u hu=>by simp at hu⟩⟩
 case round =>
  obtain⟨j,hj,rfl,hC⟩:=hrel
  by_cases hlt:j<n
  ·have hlti:(j:Int)<(n:Int):=by omega
   obtain⟨x,hx⟩:∃x,l[j]?=some x:=⟨l[j]'(by have:=HN.out;omega),List.getElem?_eq_getElem _⟩
   obtain⟨b,o,c0,c1,c2,c3,c4,rfl,hb,d0,d1,d2,d3,d4,d5,d6,d7⟩:=HRW.out j x hx
   obtain⟨us,r1,r2,r3,r4⟩:=hC.out
   have hzr:=r3.size
   have hbr:b<wr.heap.size:=by omega
   have mv:∀ {k:Nat} {y:Value},w.cell? ⟨b,k,none⟩=some y→wr.cell? ⟨b,k,none⟩=some y:=fun {k y} h=>(r3.cell (p:=⟨b,k,none⟩) hb).trans h
   obtain⟨hfw,hks⟩:=HF.out x (List.mem_of_getElem? hx)
   have HD:=Lib.hid (And.intro (mv d0) (And.intro (mv d1) (And.intro (mv d2) (And.intro (mv d3) (And.intro (mv d4) (And.intro (mv d5) (And.intro (mv d6) (d7.below r3))))))))
   have HR2:=Lib.hid r2
   have hST:Hid (∀(w3 w4:World) (v':Value) (u:Value),Below wr.heap.size wr w3→AAt w3 (fun b=>wr.heap.size≤b) u (ofV x.2.1)→w4.ownsRow w.heap.size 66 3 v' (j+1) (chG us++[.string x.1,u,.bool x.2.2])→w3.grownBy w4 u3.ownBlock→(v'.ownBlock=u3.ownBlock∨v'.ownBlock=some w3.heap.size)→ChI w l w4 v' (j+1)):=Lib.hid fun w3 w4 v' u k1 k2 k3 k4 k5=>ChI.step r1 r2 r3 r4 hx k1 k2 k3 k4 k5
   clear d0 d1 d2 d3 d4 d5 d6 d7 mv hC r1 r2 r3 r4 hx HRW
   go_wp2_with fail
   refine wp_region_fine_drop 19 (TL [eqv u3,eqv (.slice (some ⟨b,o,none⟩) n c),eqv (.int .i64 (j:Int)),eqv (.pointer (some ⟨b,o+j*7,none⟩)),eqv (.pointer (some ⟨b,o+j*7,none⟩)),eqv (.string x.1),eqv (.slice (some ⟨b,o,none⟩) n c),eqv (.int .i64 (j:Int)),eqv (.pointer (some ⟨b,o+j*7,none⟩)),eqv (.pointer (some ⟨b,o+j*7+1,none⟩)),eqv (.agg #[c0,c1,c2,c3,c4]),AaP wr.heap.size (ofV x.2.1),eqv (.slice (some ⟨b,o,none⟩) n c),eqv (.int .i64 (j:Int)),eqv (.pointer (some ⟨b,o+j*7,none⟩)),eqv (.pointer (some ⟨b,o+j*7+6,none⟩)),eqv (.bool x.2.2),AgP wr.heap.size x.1 (ofV x.2.1) x.2.2,Sl3 wr.heap.size x.1 (ofV x.2.1) x.2.2]) (by kernel_rfl) (by kernel_rfl) (by kernel_rfl) (by kernel_rfl) (TL_last (List.forall_mem_cons.2 ⟨eqv_last _,List.forall_mem_cons.2 ⟨eqv_last _,List.forall_mem_cons.2 ⟨eqv_last _,List.forall_mem_cons.2 ⟨eqv_last _,List.forall_mem_cons.2 ⟨eqv_last _,List.forall_mem_cons.2 ⟨eqv_last _,List.forall_mem_cons.2 ⟨eqv_last _,List.forall_mem_cons.2 ⟨eqv_last _,List.forall_mem_cons.2 ⟨eqv_last _,List.forall_mem_cons.2 ⟨eqv_last _,List.forall_mem_cons.2 ⟨eqv_last _,List.forall_mem_cons.2 ⟨AaP_last _ _,List.forall_mem_cons.2 ⟨eqv_last _,List.forall_mem_cons.2 ⟨eqv_last _,List.forall_mem_cons.2 ⟨eqv_last _,List.forall_mem_cons.2 ⟨eqv_last _,List.forall_mem_cons.2 ⟨eqv_last _,List.forall_mem_cons.2 ⟨AgP_last _ _ _ _,List.forall_mem_cons.2 ⟨Sl3_last _ _ _ _,fun _ h=>(List.not_mem_nil h).elim⟩⟩⟩⟩⟩⟩⟩⟩⟩⟩⟩⟩⟩⟩⟩⟩⟩⟩⟩)) (TL_no_guard (by kernel_rfl)) ?_ ?_
   ·intro ix o' ho a W' hB hdep hfix
    simp only[List.take_succ_cons,List.take_zero]at ho hdep hfix
    obtain⟨d0,d1,d2,d3,d4,d5,d6,d7⟩:=HD.out
    match ix,ho with
    |0,ho =>
     obtain rfl:=Option.some.inj ho
     exact lays_eq _ rfl (exec_move (hfix 3 (by decide +kernel)))
    |1,ho =>
     obtain rfl:=Option.some.inj ho
     exact lays_eq _ rfl (exec_move (hfix 0 (by decide +kernel)))
    |2,ho =>
     obtain rfl:=Option.some.inj ho
     exact lays_eq _ rfl (exec_move (hfix 4 (by decide +kernel)))
    |3,ho =>
     obtain rfl:=Option.some.inj ho
     have e1:a.tmps.getD 12 undef=.slice (some ⟨b,o,none⟩) n c:=hdep 1 _ 12 rfl rfl (by decide +kernel)
     have e2:a.tmps.getD 13 undef=.int .i64 (j:Int):=hdep 2 _ 13 rfl rfl (by decide +kernel)
     exact lays_eq _ rfl (exec_ix38 e1 e2 hlt)
    |4,ho =>
     obtain rfl:=Option.some.inj ho
     have e1:a.tmps.getD 14 undef=.pointer (some ⟨b,o+j*7,none⟩):=hdep 3 _ 14 rfl rfl (by decide +kernel)
     exact lays_eq _ rfl (exec_fdT e1 (fa61 b (o+j*7) W').1)
    |5,ho =>
     obtain rfl:=Option.some.inj ho
     have e1:a.tmps.getD 15 undef=.pointer (some ⟨b,o+j*7,none⟩):=hdep 4 _ 15 rfl rfl (by decide +kernel)
     exact lays_eq _ rfl (exec_ldT e1 (ld9o ((hB.cell (p:=⟨b,o+j*7,none⟩) hbr).trans d0)))
    |6,ho =>
     obtain rfl:=Option.some.inj ho
     exact lays_eq _ rfl (exec_move (hfix 0 (by decide +kernel)))
    |7,ho =>
     obtain rfl:=Option.some.inj ho
     exact lays_eq _ rfl (exec_move (hfix 4 (by decide +kernel)))
    |8,ho =>
     obtain rfl:=Option.some.inj ho
     have e1:a.tmps.getD 17 undef=.slice (some ⟨b,o,none⟩) n c:=hdep 6 _ 17 rfl rfl (by decide +kernel)
     have e2:a.tmps.getD 18 undef=.int .i64 (j:Int):=hdep 7 _ 18 rfl rfl (by decide +kernel)
     exact lays_eq _ rfl (exec_ix38 e1 e2 hlt)
    |9,ho =>
     obtain rfl:=Option.some.inj ho
     have e1:a.tmps.getD 19 undef=.pointer (some ⟨b,o+j*7,none⟩):=hdep 8 _ 19 rfl rfl (by decide +kernel)
     exact lays_eq _ rfl (exec_fdT e1 (fa61 b (o+j*7) W').2.1)
    |10,ho =>
     obtain rfl:=Option.some.inj ho
     have e1:a.tmps.getD 20 undef=.pointer (some ⟨b,o+j*7+1,none⟩):=hdep 9 _ 20 rfl rfl (by decide +kernel)
     exact lays_eq _ rfl (exec_ldT e1 (ld59o ((hB.cell (p:=⟨b,o+j*7+1,none⟩) hbr).trans d1) ((hB.cell (p:=⟨b,o+j*7+1+1,none⟩) hbr).trans d2) ((hB.cell (p:=⟨b,o+j*7+1+2,none⟩) hbr).trans d3) ((hB.cell (p:=⟨b,o+j*7+1+3,none⟩) hbr).trans d4) ((hB.cell (p:=⟨b,o+j*7+1+4,none⟩) hbr).trans d5)))
    |11,ho =>
     obtain rfl:=Option.some.inj ho
     have e1:a.tmps.getD 21 undef=.agg #[c0,c1,c2,c3,c4]:=hdep 10 _ 21 rfl rfl (by decide +kernel)
     refine lays_call #[.agg #[c0,c1,c2,c3,c4]] (by simp[Act.eval,e1]) (by kernel_rfl) ((of_any x.2.1 1 _ W' hfw (d7.below hB)).mono ?_)
     rintro e W2 ⟨r,he,hr,hB2⟩
     exact⟨_,he,hB2,AAt.keep (w':=W2) hr (fun k hk _=>by have:=hB.size;omega) (Nat.le_refl _) (fun _ _ _=>rfl)⟩
    |12,ho =>
     obtain rfl:=Option.some.inj ho
     exact lays_eq _ rfl (exec_move (hfix 0 (by decide +kernel)))
    |13,ho =>
     obtain rfl:=Option.some.inj ho
     exact lays_eq _ rfl (exec_move (hfix 4 (by decide +kernel)))
    |14,ho =>
     obtain rfl:=Option.some.inj ho
     have e1:a.tmps.getD 23 undef=.slice (some ⟨b,o,none⟩) n c:=hdep 12 _ 23 rfl rfl (by decide +kernel)
     have e2:a.tmps.getD 24 undef=.int .i64 (j:Int):=hdep 13 _ 24 rfl rfl (by decide +kernel)
     exact lays_eq _ rfl (exec_ix38 e1 e2 hlt)
    |15,ho =>
     obtain rfl:=Option.some.inj ho
     have e1:a.tmps.getD 25 undef=.pointer (some ⟨b,o+j*7,none⟩):=hdep 14 _ 25 rfl rfl (by decide +kernel)
     exact lays_eq _ rfl (exec_fdT e1 (fa61 b (o+j*7) W').2.2)
    |16,ho =>
     obtain rfl:=Option.some.inj ho
     have e1:a.tmps.getD 26 undef=.pointer (some ⟨b,o+j*7+6,none⟩):=hdep 15 _ 26 rfl rfl (by decide +kernel)
     exact lays_eq _ rfl (exec_ldT e1 (ld4o ((hB.cell (p:=⟨b,o+j*7+6,none⟩) hbr).trans d6)))
    |17,ho =>
     obtain rfl:=Option.some.inj ho
     have e1:a.tmps.getD 16 undef=.string x.1:=hdep 5 _ 16 rfl rfl (by decide +kernel)
     have e3:a.tmps.getD 27 undef=.bool x.2.2:=hdep 16 _ 27 rfl rfl (by decide +kernel)
     have e2:AaP wr.heap.size (ofV x.2.1) (a.tmps.getD 22 undef) W':=hdep 11 _ 22 rfl rfl (by decide +kernel)
     exact lays_eq _ ⟨_,rfl,e2⟩ (exec_bd66 e1 rfl e3 (aat_shape e2))
    |18,ho =>
     obtain rfl:=Option.some.inj ho
     have e1:AgP wr.heap.size x.1 (ofV x.2.1) x.2.2 (a.tmps.getD 28 undef) W':=hdep 17 _ 28 rfl rfl (by decide +kernel)
     obtain⟨u,e2,e3⟩:=e1
     have hBa:Below W'.heap.size W' (W'.alloc (.cells #[.string x.1,u,.bool x.2.2] 66)):=(Below.refl _ W').alloc (Nat.le_refl _) _
     exact lays_value (v:=.slice (some ⟨W'.heap.size,0,none⟩) 1 1) (W':=W'.alloc (.cells #[.string x.1,u,.bool x.2.2] 66)) (exec_bs53 e2 (aat_shape e3)) hBa ⟨_,u,rfl,hB.size,by simp,heap_alloc_new W' _,AaP_last _ _ _ _ _ e3 hBa⟩
    |ix+19,ho=>simp at ho
   ·intro a W' hB hd hsz hfix hTT
    simp only[List.take_succ_cons,List.take_zero,List.drop_succ_cons,List.drop_zero]at hfix hTT ⊢
    have f0:a.tmps.getD 0 undef=.slice (some ⟨b,o,none⟩) n c:=hfix 0 (by decide +kernel)
    have f1:a.tmps.getD 1 undef=undef:=hfix 1 (by decide +kernel)
    have f2:a.tmps.getD 2 undef=.slice none 0 0:=hfix 2 (by decide +kernel)
    have f31:a.tmps.getD 31 undef=undef:=hfix 31 (by decide +kernel)
    have f4:a.tmps.getD 4 undef=.int .i64 (j:Int):=hfix 4 (by decide +kernel)
    have f11:a.tmps.getD 11 undef=u3:=hTT 0 _ 11 rfl rfl
    have g29:Sl3 wr.heap.size x.1 (ofV x.2.1) x.2.2 (a.tmps.getD 29 undef) W':=hTT 18 _ 29 rfl rfl
    rw[frame_lit a 32 hsz hd]
    clear hfix hTT hsz hd
    simp only[List.range,List.range.loop,List.map]
    generalize a.tmps=t at *
    simp only[f0,f1,f2,f4,f11,f31]
    clear f0 f1 f2 f4 f11 f31
    obtain⟨b9,u,e9,k1,k2,k3,k4⟩:=g29
    simp only[e9]
    have HR3:=Lib.hid (own_kept HR2.out hB)
    have HS3:=Lib.hid fun w4 v'=>hST.out W' w4 v' u hB k4
    have hsh:=aat_shape k4
    have hcl:Hid (∀(i:Nat) (y:Value),[Value.string x.1,u,.bool x.2.2][i]?=some y→W'.cell? ((⟨b9,0,none⟩:Addr).add i)=some y):=Lib.hid fun i y hy=>by
     rw[hadd,Nat.zero_add]
     unfold World.cell?
     match i,hy with
     |0,hy=>simpa [k3]using hy
     |1,hy=>simpa [k3]using hy
     |2,hy=>simpa [k3]using hy
     |i+3,hy=>simp at hy
    have hone:Hid (∀y∈[Value.string x.1,u,.bool x.2.2],y.oneCell'=true):=Lib.hid fun y hy=>by
     simp at hy
     rcases hy with rfl | rfl | rfl
     ·rfl
     ·exact k4.one
     ·rfl
    have hsz':=hB.size
    obtain⟨i0,hi,hz0,hz1,hz2⟩:=info_parts info66
    have HI:=Lib.hid (And.intro hi (And.intro hz0 (And.intro hz1 hz2)))
    clear k1 k2 k3 k4 hB HR2 hST hsh hi hz0 hz1 hz2 HD
    go_wp2_with (refine wpList_append_own_at _ rfl (.tmp 11) (.tmp 29) 53 rfl w.heap.size 66 i0 _ 3 40 Tryz.underlying53 HI.out.1 HI.out.2.1 HI.out.2.2.1 HI.out.2.2.2 rfl (by decide) u3 j (chG us) rfl HR3.out ⟨b9,0,none⟩ 1 1 [.string x.1,u,.bool x.2.2] rfl rfl hcl.out hone.out (by unfold maxLen;omega) (by omega) (by omega) ?_;intro v' w4 hO4 hG4 _ hv4)
    have HC4:=Lib.hid (HS3.out w4 v' hO4 hG4 hv4)
    clear hO4 hG4 hv4 HR3 HS3 hcl hone HI
    go_roundw
    case rel=>exact⟨j+1,by omega,by go_num,HC4⟩
    case measure=>simp[intOf];omega
  ·obtain rfl:j=n:=by omega
   have hlti:¬(j:Int)<(j:Int):=by omega
   have hQ:Hid (ChaQ l w (.returned u3) wr):=Lib.hid (by
    obtain⟨us,r1,r2,r3,r4⟩:=hC.out
    refine⟨u3,rfl,?_,r3⟩
    have hlm:(l.map chV).length=j:=by rw[List.length_map];exact HN.out
    have hget:∀(i:Nat) (cc:Ch),(l.map chV)[i]?=some cc→∃x,l[i]?=some x∧cc=chV x:=fun i cc hc=>by
     rw[List.getElem?_map]at hc
     cases h:l[i]? with
     |none=>rw[h]at hc;cases hc
     |some x=>rw[h]at hc;cases hc;exact⟨x,rfl,rfl⟩
    have r2':=r2
    rcases r2.2 with⟨e,h0⟩ | ⟨gb,cap2,cur,e,hb,hg,h1,h2,h3,h4⟩
    ·refine⟨none,0,by rw[hlm,h0];exact e,by rw[hlm,h0];exact Nat.le_refl _,fun i cc hc=>?_⟩
     have:=(List.getElem?_eq_some_iff.1 hc).1
     omega
    ·refine⟨_,cap2,by rw[hlm];exact e,by rw[hlm];exact h1,fun i cc hc=>?_⟩
     obtain⟨x,hx,rfl⟩:=hget i cc hc
     have hi:i<us.length:=by have:=(List.getElem?_eq_some_iff.1 hc).1;omega
     obtain⟨x',f1,f2,f3,f4⟩:=r4 i us[i] (List.getElem?_eq_getElem hi)
     rw[hx]at f1
     obtain rfl:=Option.some.inj f1
     obtain⟨hfw,hks⟩:=HF.out x (List.mem_of_getElem? hx)
     have hcl:∀(k:Nat) (y:Value),(chG us)[k]?=some y→wr.cell? ⟨gb,0+k,none⟩=some y:=fun k y hk=>by
      have:=r2'.cells (g:=gb) (by rw[e];rfl) k y hk
      rwa [hadd]at this
     obtain⟨d0,d1,d2⟩:=chG_get us i us[i] (List.getElem?_eq_getElem hi)
     refine⟨by show x.1.size≤_;omega,gb,0,us[i].2.1,us[i].2.2,rfl,(Array.getElem?_eq_some_iff.1 hg).1,aat_shape f4,?_,hcl _ _ d1,hcl _ _ d2,?_⟩
     ·have:=hcl _ _ d0
      rw[f2]at this
      exact this
     ·rw[f3]
      cases hg9:x.2.2 with
      |true=>exact Or.inl ⟨rfl,by simp[chV,hg9]⟩
      |false=>exact Or.inr ⟨ofV x.2.1,rfl,by simp[chV,hg9],f4.has⟩)
   go_wp2
   go_ret
   exact hQ.out
end Go.Proofs.YtlogjpmdfimgdaaGreatDoor
namespace Go.Proofs.YtlogjpmdfimgdaaGreatDoor
open Go Go.RowKit Go.Own Go.Own.Fr Go.Maps Go.WideMaps
section
variable{Sg:Type}{base:Nat}{JS:(Nat→Prop)→World→Addr→Sg→Prop}{good:Sg→Prop}{tx:Sg→List (List Nat)}{apE:Sg→List Nat→Int}{apS:Sg→List Nat→Sg}{anE:Sg→List (List Nat)→Int}{anS:Sg→List (List Nat)→Sg}
theorem ft_less{O S:Nat→Prop}{sb b m k:Nat}(h:Ft O (fun k=>S k∧k<m) sb b k):Ft O S sb b k:=by
 rcases h with h | h | h
 ·exact Or.inl h
 ·exact Or.inr (Or.inl h.1)
 ·exact Or.inr (Or.inr h)
theorem chg_lift{O S:Nat→Prop}{sb b m:Nat}{w w1 w':World}(hB:Below w.heap.size w w1)(h:Chg (Ft O (fun k=>S k∧k<m) sb b) w1 w'):Chg (Ft O S sb b) w w' :=
 ⟨(ext_below hB).trans h.1,fun k hk hF=>(h.2 k (Nat.lt_of_lt_of_le hk hB.size) (fun h2=>hF (ft_less h2))).trans (hB.block k hk)⟩
theorem CommitQ.lift{O S:Nat→Prop}{sb b m M:Nat}{jp:Addr}{s:Sg}{g:ByteArray→Option A}{cs:List Ch}{w w1 w':World}{e:Ending}(hB:Below w.heap.size w w1)(h:CommitQ base JS apE apS anE anS s sb jp (Ft O (fun k=>S k∧k<m) sb b) M g cs w1 e w'):CommitQ base JS apE apS anE anS s sb jp (Ft O S sb b) M g cs w e w':=by
 obtain⟨O',S',b',n',c,s',g',h1,h2,h3,h4,h5,h6⟩:=h
 exact⟨O',S',b',n',c,s',g',h1,h2,h3,h4,chg_lift hB h5,fun k hk=>(h6 k hk).imp ft_less fun h=>Nat.le_trans hB.size h⟩
theorem AnewQ.lift{O S:Nat→Prop}{sb b m M:Nat}{jp:Addr}{s:Sg}{g0 g:ByteArray→Option A}{w w1 w':World}{e:Ending}(hB:Below w.heap.size w w1)(h:AnewQ base JS anE anS s sb jp (Ft O (fun k=>S k∧k<m) sb b) M g0 g w1 e w'):AnewQ base JS anE anS s sb jp (Ft O S sb b) M g0 g w e w':=by
 obtain⟨ks,O',S',b',n',h1,h2,h3,h4,h5,h6⟩:=h
 exact⟨ks,O',S',b',n',h1,h2,h3,h4,chg_lift hB h5,fun k hk=>(h6 k hk).imp ft_less fun h=>Nat.le_trans hB.size h⟩
theorem InCh.below{w w':World}{v:Value}{l:List (ByteArray×V×Bool)}(h:InCh w v l)(hB:Below w.heap.size w w'):InCh w' v l:=by
 obtain⟨p,cap,h1,h2,h3⟩:=h
 refine⟨p,cap,h1,h2,fun j x hx=>?_⟩
 obtain⟨b,o,c0,c1,c2,c3,c4,e,hb,d0,d1,d2,d3,d4,d5,d6,d7⟩:=h3 j x hx
 have mv:∀ {k:Nat} {y:Value},w.cell? ⟨b,k,none⟩=some y→w'.cell? ⟨b,k,none⟩=some y:=fun {k y} h=>(hB.cell (p:=⟨b,k,none⟩) hb).trans h
 exact⟨b,o,c0,c1,c2,c3,c4,e,Nat.lt_of_lt_of_le hb hB.size,mv d0,mv d1,mv d2,mv d3,mv d4,mv d5,mv d6,d7.below hB⟩
set_option maxRecDepth 100000 in
set_option maxHeartbeats 4000000 in
theorem does_any(HJ:Jour base JS good tx apE apS anE anS)(O S:Nat→Prop)(sb b n:Nat)(jp:Addr)(s:Sg)(g:ByteArray→Option A)(w:World)(H:StoreAt base JS O S w sb jp b n s g)(hgood:good s)(hbw:base≤w.heap.size)(hn:n≤900000)(hg:Small g)
  (l:List (ByteArray×V×Bool)) (lv:Value) (cp:Bool) (k1 k3:Int) (k2:Int) (hl:InCh w lv l) (hll:l.length≤1000) (hf:∀x∈l,fewV x.2.1 1=true∧x.1.size≤100000) (hs:sz (trA (l.map chV)) 0≤140737488355328) (htr:er (trA (l.map chV)) 0=0→trOf (bys (prt (trA (l.map chV))))=some (l.map chV))
  (hg6:er (trA (l.map chV)) 0=0→apE s (bys (prt (trA (l.map chV))))=6→good (apS s (bys (prt (trA (l.map chV)))))∧Small ((l.map chV).foldl chF g)) :
  Calls Tryz.prog 10 #[.pointer (some ⟨sb,0,none⟩),.agg #[lv,.bool cp,.int .i64 k1,.int .u64 k2,.int .i64 k3]] w fun e w'=>(cp=true∧AnewQ base JS anE anS s sb jp (Ft O S sb b) n g g w e w')∨(cp=false∧CommitQ base JS apE apS anE anS s sb jp (Ft O S sb b) (n+l.length) g (l.map chV) w e w'):=by
 obtain⟨p,cap,rfl,_,_⟩:=id hl
 obtain⟨W,hW⟩:∃W,w.alloc (.cells #[.slice p l.length cap,.bool cp,.int .i64 k1,.int .u64 k2,.int .i64 k3] 43)=W:=⟨_,rfl⟩
 have hB:Below w.heap.size w W:=hW▸(Below.refl _ w).alloc (Nat.le_refl _) _
 have H1:=H.below HJ hbw hB
 have hbW:base≤W.heap.size:=Nat.le_trans hbw hB.size
 have hh:W.heap[w.heap.size]?=some (.cells #[.slice p l.length cap,.bool cp,.int .i64 k1,.int .u64 k2,.int .i64 k3] 43 (0,0)):=hW▸heap_alloc_new w _
 have c0:W.cell? ⟨w.heap.size,0,none⟩=some (.slice p l.length cap):=by unfold World.cell?;simp[hh]
 have c1:W.cell? ⟨w.heap.size,1,none⟩=some (.bool cp):=by unfold World.cell?;simp[hh]
 have HB:=Lib.hid hB
 cases cp with
 |true =>
  have HC:=Lib.hid (compact_any HJ O _ sb b n jp s g W H1 hgood (by omega) hbW hg)
  clear H H1 hl hf hs htr hg6 hh hB hg
  go_enter Tryz.func10,Tryz.ntmps10
  go_wp2_with fail
  refine HC.out.mono ?_
  intro e w' h
  obtain⟨ks,O',S',b',n',q1,rfl,q2⟩:=h
  have HQ:=Lib.hid (AnewQ.lift HB.out (⟨ks,O',S',b',n',q1,rfl,q2⟩:AnewQ base JS anE anS s sb jp _ n g g W _ w'))
  clear q1 q2 HC
  go_wp2
  go_ret
  exact Or.inl ⟨trivial,HQ.out⟩
 |false =>
  have HC:=Lib.hid (changes_any l _ W (hl.below hB) hll hf)
  have HD:Hid (∀v w1,Below W.heap.size W w1→ChRow w1 v (l.map chV)→Calls Tryz.prog 16 #[.pointer (some ⟨sb,0,none⟩),v] w1 (CommitQ base JS apE apS anE anS s sb jp (Ft O S sb b) (n+l.length) g (l.map chV) w)):=Lib.hid fun v w1 j1 j2=>by
   refine(commit_any HJ O _ sb b n jp s g w1 (H1.below HJ hbW j1) hgood (Nat.le_trans hbW j1.size) v (l.map chV) j2 (by rw[List.length_map];exact hll) hn hs htr (fun c hc=>?_) hg6).mono fun e w' h=>?_
   ·obtain⟨x,hx,rfl⟩:=List.mem_map.1 hc
    have:=(hf x hx).2
    show x.1.size≤maxLen
    unfold maxLen
    omega
   ·rw[List.length_map]at h
    exact CommitQ.lift hB (CommitQ.lift j1 h)
  clear H H1 hl hf hs htr hg6 hh hB hg
  go_enter Tryz.func10,Tryz.ntmps10
  go_wp2_with fail
  refine HC.out.mono ?_
  rintro e w1 ⟨v,rfl,j1,j2⟩
  have HD2:=Lib.hid (HD.out v w1 j2 j1)
  clear j1 j2 HD HC
  go_wp2_with fail
  refine HD2.out.mono ?_
  intro e w' h
  obtain⟨O',S',b',n',c,s',g',rfl,q2⟩:=h
  have HQ:=Lib.hid (⟨O',S',b',n',c,s',g',rfl,q2⟩:CommitQ base JS apE apS anE anS s sb jp (Ft O S sb b) (n+l.length) g (l.map chV) w _ w')
  clear q2 HD2
  go_wp2
  go_ret
  exact Or.inr ⟨trivial,HQ.out⟩
end
end Go.Proofs.YtlogjpmdfimgdaaGreatDoor
namespace Go.Proofs.YtlogjpmdfimgdaaGreatDoor
open Go Go.RowKit Go.Own Go.Own.Fr Go.Maps Go.WideMaps
section
variable{Sg:Type}{base:Nat}{JS:(Nat→Prop)→World→Addr→Sg→Prop}{good:Sg→Prop}{tx:Sg→List (List Nat)}{apE:Sg→List Nat→Int}{apS:Sg→List Nat→Sg}{anE:Sg→List (List Nat)→Int}{anS:Sg→List (List Nat)→Sg}
def AgainQ(base:Nat)(JS:(Nat→Prop)→World→Addr→Sg→Prop)(Od:Nat→Prop)(s:Sg)(g:ByteArray→Option A)(w:World)(e:Ending)(w':World):Prop :=
 ∃O S sb b n jp,e=.returned (.pointer (some ⟨sb,0,none⟩))∧n≤765000∧StoreAt base JS O S w' sb jp b n s g∧Below w.heap.size w w'∧∀k,Ft O S sb b k→Od k∨w.heap.size≤k
def JOpenQ(JS:(Nat→Prop)→World→Addr→Sg→Prop)(Od:Nat→Prop)(s:Sg)(w:World)(e:Ending)(w':World):Prop :=
 ∃O jp,e=.returned (.tuple #[.pointer (some jp),.int .i64 0])∧JS O w' jp s∧Below w.heap.size w w'∧∀k,O k→Od k∨w.heap.size≤k
set_option maxRecDepth 100000 in
set_option maxHeartbeats 2000000 in
theorem again_any(HJ:Jour base JS good tx apE apS anE anS)(Od:Nat→Prop)(dp:Addr)(s:Sg)(g:ByteArray→Option A)(w:World)(hop:Calls Tryz.prog 24 #[.pointer (some dp)] w (JOpenQ JS Od s w))(hgood:good s)(hg:openF (fun _=>none) (tx s)=some g)(hbw:base≤w.heap.size) :
  Calls Tryz.prog 15 #[.pointer (some dp)] w (AgainQ base JS Od s g w):=by
 have HO:=Lib.hid hop
 clear hop
 go_enter Tryz.func15,Tryz.ntmps15
 go_wp2_with fail
 refine HO.out.mono ?_
 rintro e w1 ⟨O,jp,rfl,j1,j2,j3⟩
 have HS:=Lib.hid (open_any HJ O jp s w1 j1 hgood (Nat.le_trans hbw j2.size))
 rw[hg]at HS
 have HJ2:=Lib.hid j2
 have HJ3:=Lib.hid j3
 clear HO j1 j2 j3
 go_wp2_with fail
 refine HS.out.mono ?_
 rintro e w2 ⟨hB,⟨h,_⟩ | ⟨g',sb,b,n,S,h,rfl,hn,⟨q1,q2,q3⟩,hst⟩⟩
 ·cases h
 ·obtain rfl:=Option.some.inj h
  have HQ:Hid (AgainQ base JS Od s g w (.returned (.pointer (some ⟨sb,0,none⟩))) w2):=Lib.hid ⟨O,S,sb,b,n,jp,rfl,hn,hst,HJ2.out.trans (hB.mono HJ2.out.size),fun k hk=>by
   have hz:=HJ2.out.size
   rcases hk with h | h | h | h
   ·exact HJ3.out k h
   ·exact Or.inr (Nat.le_trans hz (q3 k h))
   ·exact Or.inr (by omega)
   ·exact Or.inr (by omega)⟩
  clear hB hst HS hn q1 q2 q3
  go_wp2
  go_ret
  exact HQ.out
end
end Go.Proofs.YtlogjpmdfimgdaaGreatDoor
namespace Go.Proofs.YtlogjpmdfimgdaaGreatDoor
open Go Go.RowKit Go.Own Go.Own.Fr Go.Maps Go.WideMaps
structure Ac where
 l:List (ByteArray×V×Bool)
 cp:Bool
 k1:Int
 k2:Int
 k3:Int
def InAct(w:World)(v:Value)(L:List Ac):Prop :=
 ∃p cap,v=.slice p L.length cap∧L.length≤cap∧∀(j:Nat) (x:Ac),L[j]?=some x→∃b o lv,p=some ⟨b,o,none⟩∧b<w.heap.size∧w.cell? ⟨b,o+j*5,none⟩=some lv ∧
  w.cell? ⟨b,o+j*5+1,none⟩=some (.bool x.cp)∧w.cell? ⟨b,o+j*5+2,none⟩=some (.int .i64 x.k1)∧w.cell? ⟨b,o+j*5+3,none⟩=some (.int .u64 x.k2)∧w.cell? ⟨b,o+j*5+4,none⟩=some (.int .i64 x.k3)∧InCh w lv x.l
theorem InAct.below{w w':World}{v:Value}{L:List Ac}(h:InAct w v L)(hB:Below w.heap.size w w'):InAct w' v L:=by
 obtain⟨p,cap,h1,h2,h3⟩:=h
 refine⟨p,cap,h1,h2,fun j x hx=>?_⟩
 obtain⟨b,o,lv,e,hb,d0,d1,d2,d3,d4,d5⟩:=h3 j x hx
 have mv:∀ {k:Nat} {y:Value},w.cell? ⟨b,k,none⟩=some y→w'.cell? ⟨b,k,none⟩=some y:=fun {k y} h=>(hB.cell (p:=⟨b,k,none⟩) hb).trans h
 exact⟨b,o,lv,e,Nat.lt_of_lt_of_le hb hB.size,mv d0,mv d1,mv d2,mv d3,mv d4,d5.below hB⟩
def vS:V→ByteArray
 | .mk _ _ s _ _=>s
def OkC(x:ByteArray×V×Bool):Prop:=x.1.size≤8000∧fewV x.2.1 1=true∧(vS x.2.1).size≤2000
def OkA(a:Ac):Prop:=a.l.length≤30∧∀x∈a.l,OkC x
def OkAs(L:List Ac):Prop:=L.length≤40∧∀a∈L,OkA a
def FewsQ(L:List Ac)(w:World)(e:Ending)(w':World):Prop:=∃b,e=.returned (.bool b)∧Below w.heap.size w w'∧(b=true→OkAs L)
theorem FewsQ.no{L:List Ac}{w w':World}(h:Below w.heap.size w w'):FewsQ L w (.returned (.bool false)) w':=⟨false,rfl,h,fun h=>by cases h⟩
theorem holds_parts{w:World}{c0 c1 c2 c3 c4:Value}{x:V}(h:Holds w (.agg #[c0,c1,c2,c3,c4]) x):∃(k n:Int) (b:Bool) (p:Option Addr) (m cap:Nat),c0=.int .i64 k∧c1=.int .i64 n∧c2=.string (vS x)∧c3=.bool b∧c4=.slice p m cap:=by
 obtain⟨k,n,s,b,l⟩:=x
 obtain⟨p,cap,hp⟩:=VAt.parts h
 have:=hp.eq
 simp at this
 obtain⟨e0,e1,e2,e3,e4⟩:=this
 exact⟨_,_,_,_,_,_,e0,e1,e2,e3,e4⟩
theorem take_get{α:Type}{l:List α}{j:Nat}{x:α}(h:l[j]?=some x):l.take (j+1)=l.take j++[x]:=by
 rw[List.take_add_one,h];rfl
theorem cell_at{W:World}{b:Nat}{c:Array Value}{t:TypeId}(h:W.heap[b]?=some (.cells c t (0,0)))(j:Nat):W.cell? ⟨b,j,none⟩=c[j]?:=by
 simp only[World.cell?,h,Option.isSome_none,Bool.false_eq_true,if_false]
set_option maxRecDepth 100000 in
set_option maxHeartbeats 4000000 in
theorem fews_any(L:List Ac)(v:Value)(w:World)(h:InAct w v L)(hL:L.length≤9223372036854775807)(hk:∀a∈L,a.l.length≤9223372036854775807∧∀x∈a.l,x.1.size≤140737488355328):Calls Tryz.prog 6 #[v] w (FewsQ L w):=by
 obtain⟨p,c,rfl,hcap,hrow⟩:=h
 obtain⟨n,hn⟩:∃n,L.length=n:=⟨_,rfl⟩
 have HN:=Lib.hid hn
 have HRW:=Lib.hid hrow
 have HK:=Lib.hid hk
 rw[hn]at hcap hL ⊢
 clear hrow hn hk
 go_enter Tryz.func6,Tryz.ntmps6
 go_wp2
 go_loopw [3,4] (fun m i wr=>∃(j z:Nat),j≤n∧j≤40∧z≤8000∧i=.int .i64 (j:Int)∧m=.int .i64 (z:Int)∧Hid (Below w.heap.size w wr)∧Hid (∀a∈L.take j,OkA a)) (fun _ i _=>n-(intOf i).toNat)
 case atStart=>exact⟨0,0,Nat.zero_le _,by omega,by omega,rfl,rfl,Lib.hid (Below.refl _ _),Lib.hid (fun a ha=>by simp at ha)⟩
 case round =>
  obtain⟨j,z,hj,hj40,hz,rfl,rfl,HB,HO⟩:=hrel
  by_cases hlt:j<n
  ·have hlti:(j:Int)<(n:Int):=by omega
   by_cases h40:j=40
   ·have h40i:(40:Int)≤(j:Int):=by omega
    clear hj hj40 hlt h40
    go_wp2
    go_ret
    exact FewsQ.no HB.out
   have h40i:¬(40:Int)≤(j:Int):=by omega
   obtain⟨a,ha⟩:∃a,L[j]?=some a:=⟨L[j]'(by have:=HN.out;omega),List.getElem?_eq_getElem _⟩
   obtain⟨b,o,lv,rfl,hb,d0,d1,d2,d3,d4,d5⟩:=HRW.out j a ha
   obtain⟨p2,cap2,rfl,hc2,hrow2⟩:=d5
   have dd:=(HB.out.cell (p:=⟨b,o+j*5,none⟩) hb).trans d0
   obtain⟨nl,hnl⟩:∃nl,a.l.length=nl:=⟨_,rfl⟩
   have hm:=List.mem_of_getElem? ha
   obtain⟨hk1,hk2⟩:=HK.out a hm
   rw[hnl]at d0 dd hc2 hk1
   have HR2:=Lib.hid hrow2
   have HD0:=Lib.hid d0
   have HK2:=Lib.hid hk2
   have HNL:=Lib.hid hnl
   have HA:=Lib.hid ha
   clear d0 d1 d2 d3 d4 hrow2 hk2 hnl ha hm
   by_cases h30:30<nl
   ·have h30i:(30:Int)<(nl:Int):=by omega
    clear h30
    go_wp2
    go_ret
    exact FewsQ.no HB.out
   have h30i:¬(30:Int)<(nl:Int):=by omega
   go_wp2
   go_loopw [3,5] (fun m i wr2=>∃(q z2:Nat),q≤nl∧z2≤8000∧i=.int .i64 (q:Int)∧m=.int .i64 (z2:Int)∧Hid (Below w.heap.size w wr2)∧Hid (∀x∈a.l.take q,OkC x)) (fun _ i _=>nl-(intOf i).toNat)
   case atStart=>exact⟨0,z,Nat.zero_le _,by omega,rfl,rfl,HB,Lib.hid (fun a ha=>by simp at ha)⟩
   case round =>
    obtain⟨q,z2,hq,hz2,rfl,rfl,HB2,HO2⟩:=hrel
    have dd2:=(HB2.out.cell (p:=⟨b,o+j*5,none⟩) hb).trans HD0.out
    by_cases hltq:q<nl
    ·have hltqi:(q:Int)<(nl:Int):=by omega
     obtain⟨x,hx⟩:∃x,a.l[q]?=some x:=⟨a.l[q]'(by have:=HNL.out;omega),List.getElem?_eq_getElem _⟩
     obtain⟨bb,oo,c0,c1,c2,c3,c4,rfl,hbb,g0,g1,g2,g3,g4,g5,g6,g7⟩:=HR2.out q x hx
     have hmx:=List.mem_of_getElem? hx
     have hks:=HK2.out x hmx
     have mv:∀ {k:Nat} {y:Value},w.cell? ⟨bb,k,none⟩=some y→wr.cell? ⟨bb,k,none⟩=some y:=fun {k y} h=>(HB2.out.cell (p:=⟨bb,k,none⟩) hbb).trans h
     replace g0:=mv g0
     replace g1:=mv g1
     replace g2:=mv g2
     replace g3:=mv g3
     replace g4:=mv g4
     replace g5:=mv g5
     replace g6:=mv g6
     have hH:=g7.below HB2.out
     obtain⟨vk,vn,vb,vp,vm,vc,rfl,rfl,rfl,rfl,rfl⟩:=holds_parts hH
     obtain⟨sz,hsz⟩:∃sz,x.1.size=sz:=⟨_,rfl⟩
     have HSZ:=Lib.hid hsz
     rw[hsz]at hks
     obtain⟨W1,hW1⟩:∃W1,wr.alloc (.cells #[.string x.1,.int .i64 vk,.int .i64 vn,.string (vS x.2.1),.bool vb,.slice vp vm vc,.bool x.2.2] 61)=W1:=⟨_,rfl⟩
     have hB1:Below wr.heap.size wr W1:=hW1▸(Below.refl _ wr).alloc (Nat.le_refl _) _
     have HF:=Lib.hid (few_any x.2.1 1 _ W1 (by omega) (hH.below hB1))
     have HBB1:=Lib.hid (HB2.out.trans (hB1.mono HB2.out.size))
     have hN1:W1.heap[wr.heap.size]?=some (.cells #[.string x.1,.int .i64 vk,.int .i64 vn,.string (vS x.2.1),.bool vb,.slice vp vm vc,.bool x.2.2] 61 (0,0)):=hW1▸heap_alloc_new wr _
     have HN1:=Lib.hid hN1
     have HX:=Lib.hid hx
     have m0:=cell_at hN1 0
     have m1:=cell_at hN1 1
     have m2:=cell_at hN1 2
     have m3:=cell_at hN1 3
     have m4:=cell_at hN1 4
     have m5:=cell_at hN1 5
     clear g7 hH hx mv hB1 hN1 hmx
     by_cases h8:8000<z2+10+sz
     ·have h8i:(8000:Int)<(z2:Int)+10+(sz:Int):=by omega
      clear h8
      go_wp2
      go_ret
      exact FewsQ.no HBB1.out
     have h8i:¬(8000:Int)<(z2:Int)+10+(sz:Int):=by omega
     obtain⟨fb,hfb⟩:∃fb,fewV x.2.1 1=fb:=⟨_,rfl⟩
     rw[hfb]at HF
     have HFB:=Lib.hid hfb
     clear hfb
     cases fb with
     |false =>
      go_wp2_with fail
      refine HF.out.mono ?_
      rintro e w3 ⟨rfl,hb3⟩
      have HBB3:=Lib.hid (HBB1.out.trans (hb3.mono HBB1.out.size))
      clear hb3
      go_wp2
      go_ret
      exact FewsQ.no HBB3.out
     |true =>
      by_cases h2k:2000<(vS x.2.1).size
      ·have h2ki:(2000:Int)<((vS x.2.1).size:Int):=by omega
       clear h2k
       go_wp2_with fail
       refine HF.out.mono ?_
       rintro e w3 ⟨rfl,hb3⟩
       have HBB3:=Lib.hid (HBB1.out.trans (hb3.mono HBB1.out.size))
       have HN3:=Lib.hid ((hb3.block _ (Array.getElem?_eq_some_iff.1 HN1.out).1).trans HN1.out)
       clear hb3 m0 m1 m2 m3 m4 m5
       have m3:=cell_at HN3.out 3
       go_wp2
       go_ret
       exact FewsQ.no HBB3.out
      ·have h2ki:¬(2000:Int)<((vS x.2.1).size:Int):=by omega
       have HOK:Hid (∀y∈a.l.take (q+1),OkC y):=Lib.hid (by
        intro y hy
        rw[take_get HX.out,List.mem_append]at hy
        rcases hy with hy | hy
        ·exact HO2.out y hy
        ·obtain rfl:=List.mem_singleton.1 hy
         exact⟨by rw[HSZ.out];omega,HFB.out,by omega⟩)
       clear h2k
       go_wp2_with fail
       refine HF.out.mono ?_
       rintro e w3 ⟨rfl,hb3⟩
       have HBB3:=Lib.hid (HBB1.out.trans (hb3.mono HBB1.out.size))
       have HN3:=Lib.hid ((hb3.block _ (Array.getElem?_eq_some_iff.1 HN1.out).1).trans HN1.out)
       clear hb3 m0 m1 m2 m3 m4 m5
       have m3:=cell_at HN3.out 3
       go_wp2
       go_roundw
       case rel=>exact⟨q+1,z2+10+sz,by omega,by omega,by go_num,by go_num,HBB3,HOK⟩
       case measure=>simp[intOf];omega
    ·obtain rfl:q=nl:=by omega
     have HOK:Hid (∀y∈L.take (j+1),OkA y):=Lib.hid (by
      intro y hy
      rw[take_get HA.out,List.mem_append]at hy
      rcases hy with hy | hy
      ·exact HO.out y hy
      ·obtain rfl:=List.mem_singleton.1 hy
       refine⟨by rw[HNL.out];omega,fun x hx=>HO2.out x ?_⟩
       rw[←HNL.out,List.take_length]
       exact hx)
     go_wp2
     go_roundw
     case rel=>exact⟨j+1,z2,by omega,by omega,by omega,by go_num,by go_num,HB2,HOK⟩
     case measure=>simp[intOf];omega
  ·obtain rfl:j=n:=by omega
   have HOK:Hid (OkAs L):=Lib.hid ⟨by rw[HN.out];exact hj40,fun y hy=>HO.out y (by rw[←HN.out,List.take_length];exact hy)⟩
   go_wp2
   go_ret
   exact⟨true,rfl,HB.out,fun _=>HOK.out⟩
end Go.Proofs.YtlogjpmdfimgdaaGreatDoor

/- A region that draws its order, one of whose operations turns what was there: by properties that last. No condition. | A region that draws its order, one of whose operations turns what was there: by properties that last, ahead of it and behind. No condition. | A region that draws its order, one of whose operations is a store, not the last: by properties that last, ahead of it and behind; operations with guards, too. No condition. -/
import Derived.Test.YtlogjpmdfimgdaaGreatDoorX06
namespace Go.Own.Fr
open Go Go.RowKit Go.Own
structure FInvG(l:List Oper)(s0:Nat)(WI:Bool→World→Prop)(T:Nat→Value→World→Prop)(a0:Act)(done:Array Bool)(a:Act)(W:World):Prop where
 world:WI (done.getD s0 false) W
 defers:a.defers=a0.defers
 size:a.tmps.size=a0.tmps.size
 fixed:∀s,(∀i o,l[i]?=some o→done.getD i false=true→o.dst≠some s)→a.tmps.getD s undef=a0.tmps.getD s undef
 vals:∀i o s,l[i]?=some o→done.getD i false=true→o.dst=some s→T i (a.tmps.getD s undef) W
 closed:∀i o,l[i]?=some o→done.getD i false=true→∀e∈o.after,Region.binds .any e=true→done.getD e.on false=true
theorem getD_set_self{done:Array Bool}{i:Nat}(h:i<done.size):(done.setIfInBounds i true).getD i false=true:=by
 simp[Array.getD,h]
theorem any_fine_spec{P:Program}{Q:Exit→Act→World→Prop}{a0:Act}{w0:World}(hd tl:List Oper){L:List Oper}(hL:L=hd++tl)(s0:Nat)(hs0:s0<hd.length)(WI:Bool→World→Prop)(Rel:World→World→Prop)(T:Nat→Value→World→Prop)(hW0:WI false { w0 with drawn:=w0.drawn+1 })(hWB:∀b W W',WI b W→Below W.heap.size W W'→WI b W')(hlastS:∀i o v W W',hd[i]?=some o→waitsN (hd++tl) 5 o s0=false→i≠s0→T i v W→Rel W W'→T i v W')(hp:plainG hd a0.tmps.size=true)
  (hb0:((hd++tl).zipIdx.all fun (o,i)=>o.after.all fun e=>!Region.binds .any e||decide (e.on<i))=true) (ht:tailB hd tl=true)
  (hlast:∀i v W W',T i v W→Below W.heap.size W W'→T i v W')
  (hguard:∀(i:Nat) (o:Oper) j b,hd[i]?=some o→o.guard=some (j,b)→∀v W,T j v W→v=.bool b)
  (hspec:∀o,hd[s0]?=some o→∀(a:Act) (W:World),WI false W→(∀j oj s,hd[j]?=some oj→oj.dst=some s→waits o j=true→T j (a.tmps.getD s undef) W)→(∀s,keepsB hd s0 s=true→a.tmps.getD s undef=a0.tmps.getD s undef)→∀Q,o.wp P a W (fun a' W'=>∃v,a'=a.put o.dst v∧Rel W W'∧WI true W'∧T s0 v W') Q)
  (hstep:∀i o,hd[i]?=some o→i≠s0→∀(a:Act) (W:World) (b:Bool),WI b W→(waitsN (hd++tl) 5 o s0=true→b=true)→(∀j oj s,hd[j]?=some oj→oj.dst=some s→waits o j=true→T j (a.tmps.getD s undef) W)→(∀s,keepsB hd i s=true→a.tmps.getD s undef=a0.tmps.getD s undef)→Lays P T i o a W)
  (hend:∀(a:Act) (W:World),WI true W→a.defers=a0.defers→a.tmps.size=a0.tmps.size→(∀s,(hd.all fun o=>decide (o.dst≠some s))=true→a.tmps.getD s undef=a0.tmps.getD s undef)→(∀i o s,hd[i]?=some o→o.dst=some s→T i (a.tmps.getD s undef) W)→wpList P (hd++tl).toArray Q tl a W) :
  wpAny P .any L.toArray Q L.toArray.size (Array.replicate L.toArray.size false) a0 { w0 with drawn:=w0.drawn+1 }:=by
 subst hL
 simp only[plainG,Bool.and_eq_true,decide_eq_true_eq]at hp
 obtain⟨⟨hb,hg⟩,hn⟩:=hp
 have hg2:∀(i:Nat) (o:Oper),hd[i]?=some o→(∃s,o.dst=some s∧s<a0.tmps.size)∧∀j b,o.guard=some (j,b)→waits o j=true:=fun i o ho=>by
  have h1:=List.all_eq_true.1 hg o (List.mem_of_getElem? ho)
  simp only[Bool.and_eq_true,Option.any_eq_true,decide_eq_true_eq]at h1
  refine⟨h1.1,fun j b hjb=>?_⟩
  have h2:=h1.2
  rw[hjb]at h2
  exact h2
 have hnd:∀(i j:Nat) (oi oj:Oper),hd[i]?=some oi→hd[j]?=some oj→oi.dst=oj.dst→i=j:=fun i j oi oj h1 h2 e=>by
  have hi:=(List.getElem?_eq_some_iff.1 h1).1
  have hj:=(List.getElem?_eq_some_iff.1 h2).1
  refine(List.getElem_inj (xs:=hd.map fun o=>o.dst) (h₀:=by simpa using hi) (h₁:=by simpa using hj) hn).1 ?_
  simp only[List.getElem_map]
  rw[(List.getElem?_eq_some_iff.1 h1).2,(List.getElem?_eq_some_iff.1 h2).2,e]
 have hhd:∀ {i:Nat},i<hd.length→(hd++tl)[i]?=hd[i]?:=fun h=>List.getElem?_append_left h
 have htl:∀ {k:Nat} {o:Oper},(hd++tl)[hd.length+k]?=some o→∀j,j<hd.length+k→waitsN (hd++tl) 5 o j=true:=fun {k o} ho j hj=>by
  rw[List.getElem?_append_right (by omega),Nat.add_sub_cancel_left]at ho
  have h1:=List.all_eq_true.1 ht (o,k) (by rw[List.mem_zipIdx_iff_getElem?];simpa using ho)
  exact List.all_eq_true.1 h1 j (List.mem_range.2 hj)
 refine wpAny_of_inv2 (fun done a W=>done.size=(hd++tl).length∧(∀i o,(hd++tl)[i]?=some o→done.getD i false=true→∀e∈o.after,Region.binds .any e=true→done.getD e.on false=true) ∧
   (((∀i,hd.length≤i→done.getD i false=false)∧FInvG hd s0 WI T a0 done a W) ∨
    ∃m,(∀i,i<hd.length+m→done.getD i false=true)∧(∀i,hd.length+m≤i→done.getD i false=false)∧wpList P (hd++tl).toArray Q (tl.drop m) a W)) (by simpa using hb0) ?_ ?_ _ _ _ _ (by simp) ?_ ?_
 ·rintro done a W i ⟨hds,hcl,hI⟩ hnd1 hdep hlt
  have hil:i<(hd++tl).length:=by simpa using hlt
  have ho:(hd++tl)[i]?=some (hd++tl)[i]:=List.getElem?_eq_getElem hil
  generalize hoi:(hd++tl)[i]=o at ho
  have hnf:done.getD i false=false:=by
   cases h:done.getD i false with
   |false=>rfl
   |true=>rw[getD_both hnd1]at h;cases h
  have hdo:=hdep o (by simpa using ho)
  have hcl':∀j oj,(hd++tl)[j]?=some oj→(done.setIfInBounds i true).getD j false=true→∀e∈oj.after,Region.binds .any e=true→(done.setIfInBounds i true).getD e.on false=true:=fun j oj hj hdj e he hbi=>by
   rcases done_set hdj with h1 | h1
   ·subst h1
    have:oj=o:=Option.some.inj (hj.symm.trans ho)
    subst this
    have h2:=hdo e he hbi
    by_cases e2:i=e.on
    ·rw[←e2]at h2;rw[hnf]at h2;cases h2
    ·rw[getD_set_ne false e2];exact h2
   ·have h2:=hcl j oj hj h1 e he hbi
    by_cases e2:i=e.on
    ·rw[←e2]at h2;rw[hnf]at h2;cases h2
    ·rw[getD_set_ne false e2];exact h2
  have hw2:∀k,i=hd.length+k→∀j,j<i→done.getD j false=true:=fun k hk j hj=>by
   exact waitsN_done hcl 5 o j hdo (htl (k:=k) (o:=o) (by rw[←hk];exact ho) j (by omega))
  have hseq:∀m,i=hd.length+m→(∀j,j<i→done.getD j false=true)→(∀j,i≤j→done.getD j false=false)→wpList P (hd++tl).toArray Q (tl.drop m) a W →
    wpOp P (hd++tl).toArray Q i (fun a' W'=>(done.setIfInBounds i true).size=(hd++tl).length∧(∀i_1 o,(hd++tl)[i_1]?=some o→(done.setIfInBounds i true).getD i_1 false=true→∀e∈o.after,Region.binds .any e=true→(done.setIfInBounds i true).getD e.on false=true) ∧
     (((∀j,hd.length≤j→(done.setIfInBounds i true).getD j false=false)∧FInvG hd s0 WI T a0 (done.setIfInBounds i true) a' W') ∨
      ∃m,(∀j,j<hd.length+m→(done.setIfInBounds i true).getD j false=true)∧(∀j,hd.length+m≤j→(done.setIfInBounds i true).getD j false=false)∧wpList P (hd++tl).toArray Q (tl.drop m) a' W')) a W:=fun m hm1 hlow hhigh hl=>by
   have hom:tl[m]?=some o:=by
    have:=ho
    rw[hm1,List.getElem?_append_right (by omega),Nat.add_sub_cancel_left]at this
    exact this
   have hml:=(List.getElem?_eq_some_iff.1 hom).1
   rw[List.drop_eq_getElem_cons hml,(List.getElem?_eq_some_iff.1 hom).2]at hl
   have hK:∀a' W',wpList P (hd++tl).toArray Q (tl.drop (m+1)) a' W'→((done.setIfInBounds i true).size=(hd++tl).length∧(∀i_1 o,(hd++tl)[i_1]?=some o→(done.setIfInBounds i true).getD i_1 false=true→∀e∈o.after,Region.binds .any e=true→(done.setIfInBounds i true).getD e.on false=true) ∧
     (((∀j,hd.length≤j→(done.setIfInBounds i true).getD j false=false)∧FInvG hd s0 WI T a0 (done.setIfInBounds i true) a' W') ∨
      ∃m,(∀j,j<hd.length+m→(done.setIfInBounds i true).getD j false=true)∧(∀j,hd.length+m≤j→(done.setIfInBounds i true).getD j false=false)∧wpList P (hd++tl).toArray Q (tl.drop m) a' W')):=fun a' W' h=>by
    refine⟨by simp[hds],hcl',.inr ⟨m+1,fun j hj=>?_,fun j hj=>?_,h⟩⟩
    ·by_cases e:i=j
     ·subst e;simp[hds▸hil]
     ·rw[getD_set_ne false e];exact hlow j (by omega)
    ·rw[getD_set_ne false (by omega)];exact hhigh j (by omega)
   unfold wpOp
   have ho':(hd++tl).toArray[i]?=some o:=by simpa using ho
   rw[ho']
   simp only[wpList]at hl
   split at hl
   ·rename_i hw
    simp only[hw,if_true]
    exact hl.imp (Oper.wp_mono hK) fun h=>h
   ·rename_i hw
    simp only[hw]
    exact hK _ _ hl
  rcases hI with⟨hT0,hI⟩ | ⟨m,hlow,hhigh,hl⟩
  ·by_cases hih:i<hd.length
   ·rw[hhd hih]at ho
    obtain⟨⟨s,hs,hsz⟩,hgw⟩:=hg2 i o ho
    have hvals:∀j oj s,hd[j]?=some oj→oj.dst=some s→waits o j=true→T j (a.tmps.getD s undef) W:=fun j oj sj hj hsj hw=>by
     obtain⟨e,he,hbi,hon⟩:=waits_spec hw
     exact hI.vals j oj sj hj (hon▸hdo e he hbi) hsj
    have hfix:∀s',keepsB hd i s'=true→a.tmps.getD s' undef=a0.tmps.getD s' undef:=fun s' hk=>hI.fixed s' fun j oj hj hdj hds2=>by
     have h1:=List.all_eq_true.1 hk (oj,j) (by rw[List.mem_zipIdx_iff_getElem?];simpa using hj)
     simp only[Bool.or_eq_true,decide_eq_true_eq]at h1
     rcases h1 with(h1 | h1) | h1
     ·exact h1 hds2
     ·subst h1;rw[hnf]at hdj;cases hdj
     ·obtain⟨e,he,hbi,hon⟩:=waits_spec h1
      have h2:=hI.closed j oj hj hdj e he hbi
      rw[hon,hnf]at h2;cases h2
    have hpost:∀(v:Value) (W':World),WI ((done.setIfInBounds i true).getD s0 false) W'→T i v W'→(∀j oj v',hd[j]?=some oj→done.getD j false=true→T j v' W→T j v' W')→((done.setIfInBounds i true).size=(hd++tl).length∧(∀i_1 o,(hd++tl)[i_1]?=some o→(done.setIfInBounds i true).getD i_1 false=true→∀e∈o.after,Region.binds .any e=true→(done.setIfInBounds i true).getD e.on false=true) ∧
     (((∀j,hd.length≤j→(done.setIfInBounds i true).getD j false=false)∧FInvG hd s0 WI T a0 (done.setIfInBounds i true) (a.put o.dst v) W') ∨
      ∃m,(∀j,j<hd.length+m→(done.setIfInBounds i true).getD j false=true)∧(∀j,hd.length+m≤j→(done.setIfInBounds i true).getD j false=false)∧wpList P (hd++tl).toArray Q (tl.drop m) (a.put o.dst v) W')):=by
     intro v W' hWI hTi hlasts
     refine⟨by simp[hds],hcl',.inl ⟨fun j hj=>by rw[getD_set_ne false (by omega)];exact hT0 j hj,?_⟩⟩
     have hput:=fun k=>put_at (a:=a) (s:=s) (v:=v) (by rw[hI.size];exact hsz) k
     rw[hs]
     refine⟨hWI,hI.defers,?_,fun k hk=>?_,fun j oj sj hj hdj hsj=>?_,fun j oj hj hdj e he hbi=>?_⟩
     ·simp[Act.put,hI.size]
     ·rw[hput k]
      have hne:k≠s:=fun e=>hk i o ho (by
       have hds:i<done.size:=by omega
       simp[hds]) (by rw[e];exact hs)
      rw[if_neg hne]
      exact hI.fixed k fun j oj hj hdj=>hk j oj hj (by
       by_cases e:i=j
       ·subst e;rw[hnf]at hdj;cases hdj
       ·rw[getD_set_ne false e];exact hdj)
     ·rw[hput sj]
      rcases done_set hdj with h1 | h1
      ·subst h1
       have:oj=o:=Option.some.inj (hj.symm.trans ho)
       subst this
       rw[if_pos (Option.some.inj (hsj.symm.trans hs))]
       exact hTi
      ·have hne:sj≠s:=fun e=>by
        have:=hnd j i oj o hj ho (by rw[hsj,hs,e])
        subst this
        rw[hnf]at h1;cases h1
       rw[if_neg hne]
       exact hlasts _ _ _ hj h1 (hI.vals j oj sj hj h1 hsj)
     ·exact hcl' j oj (by rw[hhd (List.getElem?_eq_some_iff.1 hj).1];exact hj) hdj e he hbi
    refine wpOp_want o (by simpa [hhd hih]using ho) ?_ ?_
    ·cases hgd:o.guard with
     |none=>simp[Region.wanted,hgd]
     |some p =>
      obtain⟨j,b⟩:=p
      have hw:=hgw j b hgd
      obtain⟨e,he,hbi,hon⟩:=waits_spec hw
      have hdj:done.getD j false=true:=hon▸hdo e he hbi
      have hjl:j<hd.length:=by
       rcases Nat.lt_or_ge j hd.length with h | h
       ·exact h
       ·rw[hT0 j h]at hdj;cases hdj
      have hoj:hd[j]?=some hd[j]:=List.getElem?_eq_getElem hjl
      obtain⟨⟨sj,hsj,hsjz⟩,_⟩:=hg2 j _ hoj
      have hT:=hvals j _ sj hoj hsj hw
      have hv:=hguard i o j b ho hgd _ _ hT
      have ht2:a.tmps[sj]?=some (.bool b):=by
       have h3:sj<a.tmps.size:=by rw[hI.size];exact hsjz
       rw[←hv]
       simp[Array.getD,h3]
      have hoj2:(hd++tl)[j]?=some hd[j]:=by rw[hhd hjl];exact hoj
      simp[Region.wanted,hgd,yielded,hoj2,hsj,ht2]
    ·by_cases his:i=s0
     ·subst his
      have hw:=hI.world
      rw[hnf]at hw
      refine Oper.wp_mono ?_ (hspec o ho a W hw hvals hfix _)
      rintro a' W' ⟨v,rfl,hR,hWt,hT⟩
      refine hpost v W' (by rw[getD_set_self (by omega)];exact hWt) hT fun j oj v' hoj hj ht=>hlastS j oj v' W W' hoj (by
       cases hwn:waitsN (hd++tl) 5 oj i with
       |false=>rfl
       |true =>
        have h9:=waitsN_done hcl 5 oj i (fun e he hbi=>hcl j oj (by rw[hhd (List.getElem?_eq_some_iff.1 hoj).1];exact hoj) hj e he hbi) hwn
        rw[hnf]at h9;cases h9) (fun e=>by subst e;rw[hnf]at hj;cases hj) ht hR
     ·refine Oper.wp_mono ?_ (hstep i o ho his a W _ hI.world (fun hw=>waitsN_done hcl 5 o s0 hdo hw) hvals hfix _)
      rintro a' W' ⟨v,rfl,hB,hT⟩
      exact hpost v W' (by rw[getD_set_ne false his];exact hWB _ _ _ hI.world hB) hT fun j _ v' _ _ ht=>hlast _ _ _ _ ht hB
   ·obtain⟨k,hk⟩:∃k,i=hd.length+k:=⟨i-hd.length,by omega⟩
    have hlow:=hw2 k hk
    have hk0:k=0:=by
     rcases Nat.eq_zero_or_pos k with h | h
     ·exact h
     ·have h1:=hlow hd.length (by omega)
      rw[hT0 _ (Nat.le_refl _)]at h1;cases h1
    subst hk0
    refine hseq 0 hk hlow (fun j hj=>hT0 j (by omega)) ?_
    rw[List.drop_zero]
    exact hend a W (by have h9:=hI.world;rw[hlow s0 (by omega)]at h9;exact h9) hI.defers hI.size (fun s hs=>hI.fixed s fun j o ho _=>by
     have:=List.all_eq_true.1 hs o (List.mem_of_getElem? ho)
     simpa using this) (fun j o s ho hs=>hI.vals j o s ho (hlow j (by have:=(List.getElem?_eq_some_iff.1 ho).1;omega)) hs)
  ·have him:i=hd.length+m:=by
    rcases Nat.lt_trichotomy i (hd.length+m)with h | h | h
    ·rw[hlow i h]at hnf;cases hnf
    ·exact h
    ·obtain⟨k,hk⟩:∃k,i=hd.length+k:=⟨i-hd.length,by omega⟩
     have h1:=hw2 k hk (hd.length+m) h
     rw[hhigh _ (Nat.le_refl _)]at h1;cases h1
   exact hseq m him (fun j hj=>hlow j (by omega)) (fun j hj=>hhigh j (by omega)) hl
 ·rintro done a W ⟨hds,hcl,hI⟩ hall
  have hall':∀i,i<(hd++tl).length→done.getD i false=true:=fun i hi=>hall i (by simpa using hi)
  rcases hI with⟨hT0,hI⟩ | ⟨m,hlow,hhigh,hl⟩
  ·have h0:tl=[]:=by
    cases tl with
    |nil=>rfl
    |cons o r =>
     have h1:=hall' hd.length (by simp)
     rw[hT0 _ (Nat.le_refl _)]at h1;cases h1
   subst h0
   exact hend a W (by have h9:=hI.world;rw[hall' s0 (by simpa using hs0)]at h9;exact h9) hI.defers hI.size (fun s hs=>hI.fixed s fun j o ho _=>by
     have:=List.all_eq_true.1 hs o (List.mem_of_getElem? ho)
     simpa using this) (fun j o s ho hs=>hI.vals j o s ho (hall' j (by have:=(List.getElem?_eq_some_iff.1 ho).1;simp;omega)) hs)
  ·have hml:tl.length≤m:=by
    rcases Nat.lt_or_ge m tl.length with h | h
    ·have h1:=hall' (hd.length+m) (by simp;omega)
     rw[hhigh _ (Nat.le_refl _)]at h1;cases h1
    ·exact h
   rw[List.drop_of_length_le hml]at hl
   exact hl
 ·have hc:∀(n m:Nat),((List.range m).countP fun i=>!(Array.replicate n false).getD i true)≤m:=fun n m=>by
   have:=List.countP_le_length (l:=List.range m) (p:=fun i=>!(Array.replicate n false).getD i true)
   simpa using this
  exact hc _ _
 ·have hz:∀n j,(Array.replicate n false).getD j false≠true:=fun n j h=>by rw[getD_replicate_false]at h;cases h
  exact⟨by simp,fun i o _ h=>absurd h (hz _ _),.inl ⟨fun i _=>getD_replicate_false _ _,by rw[getD_replicate_false];exact hW0,rfl,rfl,fun _ _=>rfl,fun i o s _ h=>absurd h (hz _ _),fun i o _ h=>absurd h (hz _ _)⟩⟩
theorem wp_region_fine_spec{P:Program}{id:Nat}{Q:Exit→Act→World→Prop}{a0:Act}{w0:World}{L:List Oper}(n s0:Nat)(hs0:s0<(L.take n).length)(WI:Bool→World→Prop)(Rel:World→World→Prop)(T:Nat→Value→World→Prop)(hm:P.follows .mixedOrders=true)(hp:plainG (L.take n) a0.tmps.size=true)
  (hb0:(L.zipIdx.all fun (o,i)=>o.after.all fun e=>!Region.binds .any e||decide (e.on<i))=true) (ht:tailB (L.take n) (L.drop n)=true)
  (hW0:WI false { w0 with drawn:=w0.drawn+1 }) (hWB:∀b W W',WI b W→Below W.heap.size W W'→WI b W') (hlastS:∀i o v W W',(L.take n)[i]?=some o→waitsN L 5 o s0=false→i≠s0→T i v W→Rel W W'→T i v W')
  (hlast:∀i v W W',T i v W→Below W.heap.size W W'→T i v W')
  (hguard:∀(i:Nat) (o:Oper) j b,(L.take n)[i]?=some o→o.guard=some (j,b)→∀v W,T j v W→v=.bool b)
  (hspec:∀o,(L.take n)[s0]?=some o→∀(a:Act) (W:World),WI false W→(∀j oj s,(L.take n)[j]?=some oj→oj.dst=some s→waits o j=true→T j (a.tmps.getD s undef) W)→(∀s,keepsB (L.take n) s0 s=true→a.tmps.getD s undef=a0.tmps.getD s undef)→∀Q,o.wp P a W (fun a' W'=>∃v,a'=a.put o.dst v∧Rel W W'∧WI true W'∧T s0 v W') Q)
  (hstep:∀i o,(L.take n)[i]?=some o→i≠s0→∀(a:Act) (W:World) (b:Bool),WI b W→(waitsN L 5 o s0=true→b=true)→(∀j oj s,(L.take n)[j]?=some oj→oj.dst=some s→waits o j=true→T j (a.tmps.getD s undef) W)→(∀s,keepsB (L.take n) i s=true→a.tmps.getD s undef=a0.tmps.getD s undef)→Lays P T i o a W)
  (hend:∀(a:Act) (W:World),WI true W→a.defers=a0.defers→a.tmps.size=a0.tmps.size→(∀s,((L.take n).all fun o=>decide (o.dst≠some s))=true→a.tmps.getD s undef=a0.tmps.getD s undef)→(∀i o s,(L.take n)[i]?=some o→o.dst=some s→T i (a.tmps.getD s undef) W)→wpList P L.toArray Q (L.drop n) a W) :
  (Code.region id L.toArray true).wp P Q a0 w0 :=
 wp_region_any hm (any_fine_spec (L.take n) (L.drop n) (List.take_append_drop n L).symm s0 hs0 WI Rel T hW0 hWB (by rw[List.take_append_drop];exact hlastS) hp (by rw[List.take_append_drop];exact hb0) ht hlast hguard hspec (by rw[List.take_append_drop];exact hstep) (by rw[List.take_append_drop];exact hend))
end Go.Own.Fr
namespace Go.Own.Fr
open Go Go.RowKit Go.Own
structure FInvK(l:List Oper)(s0:Nat)(WI:Bool→World→Prop)(T:Bool→Nat→Value→World→Prop)(a0:Act)(done:Array Bool)(a:Act)(W:World):Prop where
 world:WI (done.getD s0 false) W
 defers:a.defers=a0.defers
 size:a.tmps.size=a0.tmps.size
 fixed:∀s,(∀i o,l[i]?=some o→done.getD i false=true→o.dst≠some s)→a.tmps.getD s undef=a0.tmps.getD s undef
 vals:∀i o s,l[i]?=some o→done.getD i false=true→o.dst=some s→T (done.getD s0 false) i (a.tmps.getD s undef) W
 closed:∀i o,l[i]?=some o→done.getD i false=true→∀e∈o.after,Region.binds .any e=true→done.getD e.on false=true
theorem any_fine_turn{P:Program}{Q:Exit→Act→World→Prop}{a0:Act}{w0:World}(hd tl:List Oper){L:List Oper}(hL:L=hd++tl)(s0:Nat)(hs0:s0<hd.length)(WI:Bool→World→Prop)(Rel:World→World→Prop)(T:Bool→Nat→Value→World→Prop)(hW0:WI false { w0 with drawn:=w0.drawn+1 })(hWB:∀b W W',WI b W→Below W.heap.size W W'→WI b W')(hlastS:∀i o v W W',hd[i]?=some o→waitsN (hd++tl) 5 o s0=false→i≠s0→T false i v W→Rel W W'→T true i v W')(hp:plainG hd a0.tmps.size=true)
  (hb0:((hd++tl).zipIdx.all fun (o,i)=>o.after.all fun e=>!Region.binds .any e||decide (e.on<i))=true) (ht:tailB hd tl=true)
  (hlast:∀b i v W W',T b i v W→Below W.heap.size W W'→T b i v W')
  (hguard:∀(i:Nat) (o:Oper) j b,hd[i]?=some o→o.guard=some (j,b)→∀ph v W,T ph j v W→v=.bool b)
  (hspec:∀o,hd[s0]?=some o→∀(a:Act) (W:World),WI false W→(∀j oj s,hd[j]?=some oj→oj.dst=some s→waits o j=true→T false j (a.tmps.getD s undef) W)→(∀s,keepsB hd s0 s=true→a.tmps.getD s undef=a0.tmps.getD s undef)→∀Q,o.wp P a W (fun a' W'=>∃v,a'=a.put o.dst v∧Rel W W'∧WI true W'∧T true s0 v W') Q)
  (hstep:∀i o,hd[i]?=some o→i≠s0→∀(a:Act) (W:World) (b:Bool),WI b W→(waitsN (hd++tl) 5 o s0=true→b=true)→(∀o0,hd[s0]?=some o0→b=true→waits o0 i=false)→(∀j oj s,hd[j]?=some oj→oj.dst=some s→waits o j=true→T b j (a.tmps.getD s undef) W)→(∀s,keepsB hd i s=true→a.tmps.getD s undef=a0.tmps.getD s undef)→Lays P (T b) i o a W)
  (hend:∀(a:Act) (W:World),WI true W→a.defers=a0.defers→a.tmps.size=a0.tmps.size→(∀s,(hd.all fun o=>decide (o.dst≠some s))=true→a.tmps.getD s undef=a0.tmps.getD s undef)→(∀i o s,hd[i]?=some o→o.dst=some s→T true i (a.tmps.getD s undef) W)→wpList P (hd++tl).toArray Q tl a W) :
  wpAny P .any L.toArray Q L.toArray.size (Array.replicate L.toArray.size false) a0 { w0 with drawn:=w0.drawn+1 }:=by
 subst hL
 simp only[plainG,Bool.and_eq_true,decide_eq_true_eq]at hp
 obtain⟨⟨hb,hg⟩,hn⟩:=hp
 have hg2:∀(i:Nat) (o:Oper),hd[i]?=some o→(∃s,o.dst=some s∧s<a0.tmps.size)∧∀j b,o.guard=some (j,b)→waits o j=true:=fun i o ho=>by
  have h1:=List.all_eq_true.1 hg o (List.mem_of_getElem? ho)
  simp only[Bool.and_eq_true,Option.any_eq_true,decide_eq_true_eq]at h1
  refine⟨h1.1,fun j b hjb=>?_⟩
  have h2:=h1.2
  rw[hjb]at h2
  exact h2
 have hnd:∀(i j:Nat) (oi oj:Oper),hd[i]?=some oi→hd[j]?=some oj→oi.dst=oj.dst→i=j:=fun i j oi oj h1 h2 e=>by
  have hi:=(List.getElem?_eq_some_iff.1 h1).1
  have hj:=(List.getElem?_eq_some_iff.1 h2).1
  refine(List.getElem_inj (xs:=hd.map fun o=>o.dst) (h₀:=by simpa using hi) (h₁:=by simpa using hj) hn).1 ?_
  simp only[List.getElem_map]
  rw[(List.getElem?_eq_some_iff.1 h1).2,(List.getElem?_eq_some_iff.1 h2).2,e]
 have hhd:∀ {i:Nat},i<hd.length→(hd++tl)[i]?=hd[i]?:=fun h=>List.getElem?_append_left h
 have htl:∀ {k:Nat} {o:Oper},(hd++tl)[hd.length+k]?=some o→∀j,j<hd.length+k→waitsN (hd++tl) 5 o j=true:=fun {k o} ho j hj=>by
  rw[List.getElem?_append_right (by omega),Nat.add_sub_cancel_left]at ho
  have h1:=List.all_eq_true.1 ht (o,k) (by rw[List.mem_zipIdx_iff_getElem?];simpa using ho)
  exact List.all_eq_true.1 h1 j (List.mem_range.2 hj)
 refine wpAny_of_inv2 (fun done a W=>done.size=(hd++tl).length∧(∀i o,(hd++tl)[i]?=some o→done.getD i false=true→∀e∈o.after,Region.binds .any e=true→done.getD e.on false=true) ∧
   (((∀i,hd.length≤i→done.getD i false=false)∧FInvK hd s0 WI T a0 done a W) ∨
    ∃m,(∀i,i<hd.length+m→done.getD i false=true)∧(∀i,hd.length+m≤i→done.getD i false=false)∧wpList P (hd++tl).toArray Q (tl.drop m) a W)) (by simpa using hb0) ?_ ?_ _ _ _ _ (by simp) ?_ ?_
 ·rintro done a W i ⟨hds,hcl,hI⟩ hnd1 hdep hlt
  have hil:i<(hd++tl).length:=by simpa using hlt
  have ho:(hd++tl)[i]?=some (hd++tl)[i]:=List.getElem?_eq_getElem hil
  generalize hoi:(hd++tl)[i]=o at ho
  have hnf:done.getD i false=false:=by
   cases h:done.getD i false with
   |false=>rfl
   |true=>rw[getD_both hnd1]at h;cases h
  have hdo:=hdep o (by simpa using ho)
  have hcl':∀j oj,(hd++tl)[j]?=some oj→(done.setIfInBounds i true).getD j false=true→∀e∈oj.after,Region.binds .any e=true→(done.setIfInBounds i true).getD e.on false=true:=fun j oj hj hdj e he hbi=>by
   rcases done_set hdj with h1 | h1
   ·subst h1
    have:oj=o:=Option.some.inj (hj.symm.trans ho)
    subst this
    have h2:=hdo e he hbi
    by_cases e2:i=e.on
    ·rw[←e2]at h2;rw[hnf]at h2;cases h2
    ·rw[getD_set_ne false e2];exact h2
   ·have h2:=hcl j oj hj h1 e he hbi
    by_cases e2:i=e.on
    ·rw[←e2]at h2;rw[hnf]at h2;cases h2
    ·rw[getD_set_ne false e2];exact h2
  have hw2:∀k,i=hd.length+k→∀j,j<i→done.getD j false=true:=fun k hk j hj=>by
   exact waitsN_done hcl 5 o j hdo (htl (k:=k) (o:=o) (by rw[←hk];exact ho) j (by omega))
  have hseq:∀m,i=hd.length+m→(∀j,j<i→done.getD j false=true)→(∀j,i≤j→done.getD j false=false)→wpList P (hd++tl).toArray Q (tl.drop m) a W →
    wpOp P (hd++tl).toArray Q i (fun a' W'=>(done.setIfInBounds i true).size=(hd++tl).length∧(∀i_1 o,(hd++tl)[i_1]?=some o→(done.setIfInBounds i true).getD i_1 false=true→∀e∈o.after,Region.binds .any e=true→(done.setIfInBounds i true).getD e.on false=true) ∧
     (((∀j,hd.length≤j→(done.setIfInBounds i true).getD j false=false)∧FInvK hd s0 WI T a0 (done.setIfInBounds i true) a' W') ∨
      ∃m,(∀j,j<hd.length+m→(done.setIfInBounds i true).getD j false=true)∧(∀j,hd.length+m≤j→(done.setIfInBounds i true).getD j false=false)∧wpList P (hd++tl).toArray Q (tl.drop m) a' W')) a W:=fun m hm1 hlow hhigh hl=>by
   have hom:tl[m]?=some o:=by
    have:=ho
    rw[hm1,List.getElem?_append_right (by omega),Nat.add_sub_cancel_left]at this
    exact this
   have hml:=(List.getElem?_eq_some_iff.1 hom).1
   rw[List.drop_eq_getElem_cons hml,(List.getElem?_eq_some_iff.1 hom).2]at hl
   have hK:∀a' W',wpList P (hd++tl).toArray Q (tl.drop (m+1)) a' W'→((done.setIfInBounds i true).size=(hd++tl).length∧(∀i_1 o,(hd++tl)[i_1]?=some o→(done.setIfInBounds i true).getD i_1 false=true→∀e∈o.after,Region.binds .any e=true→(done.setIfInBounds i true).getD e.on false=true) ∧
     (((∀j,hd.length≤j→(done.setIfInBounds i true).getD j false=false)∧FInvK hd s0 WI T a0 (done.setIfInBounds i true) a' W') ∨
      ∃m,(∀j,j<hd.length+m→(done.setIfInBounds i true).getD j false=true)∧(∀j,hd.length+m≤j→(done.setIfInBounds i true).getD j false=false)∧wpList P (hd++tl).toArray Q (tl.drop m) a' W')):=fun a' W' h=>by
    refine⟨by simp[hds],hcl',.inr ⟨m+1,fun j hj=>?_,fun j hj=>?_,h⟩⟩
    ·by_cases e:i=j
     ·subst e;simp[hds▸hil]
     ·rw[getD_set_ne false e];exact hlow j (by omega)
    ·rw[getD_set_ne false (by omega)];exact hhigh j (by omega)
   unfold wpOp
   have ho':(hd++tl).toArray[i]?=some o:=by simpa using ho
   rw[ho']
   simp only[wpList]at hl
   split at hl
   ·rename_i hw
    simp only[hw,if_true]
    exact hl.imp (Oper.wp_mono hK) fun h=>h
   ·rename_i hw
    simp only[hw]
    exact hK _ _ hl
  rcases hI with⟨hT0,hI⟩ | ⟨m,hlow,hhigh,hl⟩
  ·by_cases hih:i<hd.length
   ·rw[hhd hih]at ho
    obtain⟨⟨s,hs,hsz⟩,hgw⟩:=hg2 i o ho
    have hvals:∀j oj s,hd[j]?=some oj→oj.dst=some s→waits o j=true→T (done.getD s0 false) j (a.tmps.getD s undef) W:=fun j oj sj hj hsj hw=>by
     obtain⟨e,he,hbi,hon⟩:=waits_spec hw
     exact hI.vals j oj sj hj (hon▸hdo e he hbi) hsj
    have hfix:∀s',keepsB hd i s'=true→a.tmps.getD s' undef=a0.tmps.getD s' undef:=fun s' hk=>hI.fixed s' fun j oj hj hdj hds2=>by
     have h1:=List.all_eq_true.1 hk (oj,j) (by rw[List.mem_zipIdx_iff_getElem?];simpa using hj)
     simp only[Bool.or_eq_true,decide_eq_true_eq]at h1
     rcases h1 with(h1 | h1) | h1
     ·exact h1 hds2
     ·subst h1;rw[hnf]at hdj;cases hdj
     ·obtain⟨e,he,hbi,hon⟩:=waits_spec h1
      have h2:=hI.closed j oj hj hdj e he hbi
      rw[hon,hnf]at h2;cases h2
    have hpost:∀(v:Value) (W':World),WI ((done.setIfInBounds i true).getD s0 false) W'→T ((done.setIfInBounds i true).getD s0 false) i v W'→(∀j oj v',hd[j]?=some oj→done.getD j false=true→T (done.getD s0 false) j v' W→T ((done.setIfInBounds i true).getD s0 false) j v' W')→((done.setIfInBounds i true).size=(hd++tl).length∧(∀i_1 o,(hd++tl)[i_1]?=some o→(done.setIfInBounds i true).getD i_1 false=true→∀e∈o.after,Region.binds .any e=true→(done.setIfInBounds i true).getD e.on false=true) ∧
     (((∀j,hd.length≤j→(done.setIfInBounds i true).getD j false=false)∧FInvK hd s0 WI T a0 (done.setIfInBounds i true) (a.put o.dst v) W') ∨
      ∃m,(∀j,j<hd.length+m→(done.setIfInBounds i true).getD j false=true)∧(∀j,hd.length+m≤j→(done.setIfInBounds i true).getD j false=false)∧wpList P (hd++tl).toArray Q (tl.drop m) (a.put o.dst v) W')):=by
     intro v W' hWI hTi hlasts
     refine⟨by simp[hds],hcl',.inl ⟨fun j hj=>by rw[getD_set_ne false (by omega)];exact hT0 j hj,?_⟩⟩
     have hput:=fun k=>put_at (a:=a) (s:=s) (v:=v) (by rw[hI.size];exact hsz) k
     rw[hs]
     refine⟨hWI,hI.defers,?_,fun k hk=>?_,fun j oj sj hj hdj hsj=>?_,fun j oj hj hdj e he hbi=>?_⟩
     ·simp[Act.put,hI.size]
     ·rw[hput k]
      have hne:k≠s:=fun e=>hk i o ho (by
       have hds:i<done.size:=by omega
       simp[hds]) (by rw[e];exact hs)
      rw[if_neg hne]
      exact hI.fixed k fun j oj hj hdj=>hk j oj hj (by
       by_cases e:i=j
       ·subst e;rw[hnf]at hdj;cases hdj
       ·rw[getD_set_ne false e];exact hdj)
     ·rw[hput sj]
      rcases done_set hdj with h1 | h1
      ·subst h1
       have:oj=o:=Option.some.inj (hj.symm.trans ho)
       subst this
       rw[if_pos (Option.some.inj (hsj.symm.trans hs))]
       exact hTi
      ·have hne:sj≠s:=fun e=>by
        have:=hnd j i oj o hj ho (by rw[hsj,hs,e])
        subst this
        rw[hnf]at h1;cases h1
       rw[if_neg hne]
       exact hlasts _ _ _ hj h1 (hI.vals j oj sj hj h1 hsj)
     ·exact hcl' j oj (by rw[hhd (List.getElem?_eq_some_iff.1 hj).1];exact hj) hdj e he hbi
    refine wpOp_want o (by simpa [hhd hih]using ho) ?_ ?_
    ·cases hgd:o.guard with
     |none=>simp[Region.wanted,hgd]
     |some p =>
      obtain⟨j,b⟩:=p
      have hw:=hgw j b hgd
      obtain⟨e,he,hbi,hon⟩:=waits_spec hw
      have hdj:done.getD j false=true:=hon▸hdo e he hbi
      have hjl:j<hd.length:=by
       rcases Nat.lt_or_ge j hd.length with h | h
       ·exact h
       ·rw[hT0 j h]at hdj;cases hdj
      have hoj:hd[j]?=some hd[j]:=List.getElem?_eq_getElem hjl
      obtain⟨⟨sj,hsj,hsjz⟩,_⟩:=hg2 j _ hoj
      have hT:=hvals j _ sj hoj hsj hw
      have hv:=hguard i o j b ho hgd _ _ _ hT
      have ht2:a.tmps[sj]?=some (.bool b):=by
       have h3:sj<a.tmps.size:=by rw[hI.size];exact hsjz
       rw[←hv]
       simp[Array.getD,h3]
      have hoj2:(hd++tl)[j]?=some hd[j]:=by rw[hhd hjl];exact hoj
      simp[Region.wanted,hgd,yielded,hoj2,hsj,ht2]
    ·by_cases his:i=s0
     ·subst his
      have hw:=hI.world
      rw[hnf]at hw hvals
      have hself:(done.setIfInBounds i true).getD i false=true:=getD_set_self (by omega)
      refine Oper.wp_mono ?_ (hspec o ho a W hw hvals hfix _)
      rintro a' W' ⟨v,rfl,hR,hWt,hT⟩
      have hL:∀j oj v',hd[j]?=some oj→done.getD j false=true→T false j v' W→T true j v' W':=fun j oj v' hoj hj ht=>hlastS j oj v' W W' hoj (by
       cases hwn:waitsN (hd++tl) 5 oj i with
       |false=>rfl
       |true =>
        have h9:=waitsN_done hcl 5 oj i (fun e he hbi=>hcl j oj (by rw[hhd (List.getElem?_eq_some_iff.1 hoj).1];exact hoj) hj e he hbi) hwn
        rw[hnf]at h9;cases h9) (fun e=>by subst e;rw[hnf]at hj;cases hj) ht hR
      refine hpost v W' (by rw[hself];exact hWt) (by rw[hself];exact hT) fun j oj v' hoj hj ht=>?_
      rw[hself]
      rw[hnf]at ht
      exact hL j oj v' hoj hj ht
     ·refine Oper.wp_mono ?_ (hstep i o ho his a W _ hI.world (fun hw=>waitsN_done hcl 5 o s0 hdo hw) (fun o0 ho0 hb=>by
      cases hwt:waits o0 i with
      |false=>rfl
      |true =>
       obtain⟨e,he,hbi,hon⟩:=waits_spec hwt
       have h2:=hI.closed s0 o0 ho0 hb e he hbi
       rw[hon,hnf]at h2;cases h2) hvals hfix _)
      rintro a' W' ⟨v,rfl,hB,hT⟩
      have hkeep:(done.setIfInBounds i true).getD s0 false=done.getD s0 false:=getD_set_ne false his
      exact hpost v W' (by rw[hkeep];exact hWB _ _ _ hI.world hB) (by rw[hkeep];exact hT) fun j _ v' _ _ ht=>by rw[hkeep];exact hlast _ _ _ _ _ ht hB
   ·obtain⟨k,hk⟩:∃k,i=hd.length+k:=⟨i-hd.length,by omega⟩
    have hlow:=hw2 k hk
    have hk0:k=0:=by
     rcases Nat.eq_zero_or_pos k with h | h
     ·exact h
     ·have h1:=hlow hd.length (by omega)
      rw[hT0 _ (Nat.le_refl _)]at h1;cases h1
    subst hk0
    refine hseq 0 hk hlow (fun j hj=>hT0 j (by omega)) ?_
    rw[List.drop_zero]
    exact hend a W (by have h9:=hI.world;rw[hlow s0 (by omega)]at h9;exact h9) hI.defers hI.size (fun s hs=>hI.fixed s fun j o ho _=>by
     have:=List.all_eq_true.1 hs o (List.mem_of_getElem? ho)
     simpa using this) (fun j o s ho hs=>by have h9:=hI.vals j o s ho (hlow j (by have:=(List.getElem?_eq_some_iff.1 ho).1;omega)) hs;rw[hlow s0 (by omega)]at h9;exact h9)
  ·have him:i=hd.length+m:=by
    rcases Nat.lt_trichotomy i (hd.length+m)with h | h | h
    ·rw[hlow i h]at hnf;cases hnf
    ·exact h
    ·obtain⟨k,hk⟩:∃k,i=hd.length+k:=⟨i-hd.length,by omega⟩
     have h1:=hw2 k hk (hd.length+m) h
     rw[hhigh _ (Nat.le_refl _)]at h1;cases h1
   exact hseq m him (fun j hj=>hlow j (by omega)) (fun j hj=>hhigh j (by omega)) hl
 ·rintro done a W ⟨hds,hcl,hI⟩ hall
  have hall':∀i,i<(hd++tl).length→done.getD i false=true:=fun i hi=>hall i (by simpa using hi)
  rcases hI with⟨hT0,hI⟩ | ⟨m,hlow,hhigh,hl⟩
  ·have h0:tl=[]:=by
    cases tl with
    |nil=>rfl
    |cons o r =>
     have h1:=hall' hd.length (by simp)
     rw[hT0 _ (Nat.le_refl _)]at h1;cases h1
   subst h0
   exact hend a W (by have h9:=hI.world;rw[hall' s0 (by simpa using hs0)]at h9;exact h9) hI.defers hI.size (fun s hs=>hI.fixed s fun j o ho _=>by
     have:=List.all_eq_true.1 hs o (List.mem_of_getElem? ho)
     simpa using this) (fun j o s ho hs=>by have h9:=hI.vals j o s ho (hall' j (by have:=(List.getElem?_eq_some_iff.1 ho).1;simp;omega)) hs;rw[hall' s0 (by simp;omega)]at h9;exact h9)
  ·have hml:tl.length≤m:=by
    rcases Nat.lt_or_ge m tl.length with h | h
    ·have h1:=hall' (hd.length+m) (by simp;omega)
     rw[hhigh _ (Nat.le_refl _)]at h1;cases h1
    ·exact h
   rw[List.drop_of_length_le hml]at hl
   exact hl
 ·have hc:∀(n m:Nat),((List.range m).countP fun i=>!(Array.replicate n false).getD i true)≤m:=fun n m=>by
   have:=List.countP_le_length (l:=List.range m) (p:=fun i=>!(Array.replicate n false).getD i true)
   simpa using this
  exact hc _ _
 ·have hz:∀n j,(Array.replicate n false).getD j false≠true:=fun n j h=>by rw[getD_replicate_false]at h;cases h
  exact⟨by simp,fun i o _ h=>absurd h (hz _ _),.inl ⟨fun i _=>getD_replicate_false _ _,by rw[getD_replicate_false];exact hW0,rfl,rfl,fun _ _=>rfl,fun i o s _ h=>absurd h (hz _ _),fun i o _ h=>absurd h (hz _ _)⟩⟩
theorem wp_region_fine_turn{P:Program}{id:Nat}{Q:Exit→Act→World→Prop}{a0:Act}{w0:World}{L:List Oper}(n s0:Nat)(hs0:s0<(L.take n).length)(WI:Bool→World→Prop)(Rel:World→World→Prop)(T:Bool→Nat→Value→World→Prop)(hm:P.follows .mixedOrders=true)(hp:plainG (L.take n) a0.tmps.size=true)
  (hb0:(L.zipIdx.all fun (o,i)=>o.after.all fun e=>!Region.binds .any e||decide (e.on<i))=true) (ht:tailB (L.take n) (L.drop n)=true)
  (hW0:WI false { w0 with drawn:=w0.drawn+1 }) (hWB:∀b W W',WI b W→Below W.heap.size W W'→WI b W') (hlastS:∀i o v W W',(L.take n)[i]?=some o→waitsN L 5 o s0=false→i≠s0→T false i v W→Rel W W'→T true i v W')
  (hlast:∀b i v W W',T b i v W→Below W.heap.size W W'→T b i v W')
  (hguard:∀(i:Nat) (o:Oper) j b,(L.take n)[i]?=some o→o.guard=some (j,b)→∀ph v W,T ph j v W→v=.bool b)
  (hspec:∀o,(L.take n)[s0]?=some o→∀(a:Act) (W:World),WI false W→(∀j oj s,(L.take n)[j]?=some oj→oj.dst=some s→waits o j=true→T false j (a.tmps.getD s undef) W)→(∀s,keepsB (L.take n) s0 s=true→a.tmps.getD s undef=a0.tmps.getD s undef)→∀Q,o.wp P a W (fun a' W'=>∃v,a'=a.put o.dst v∧Rel W W'∧WI true W'∧T true s0 v W') Q)
  (hstep:∀i o,(L.take n)[i]?=some o→i≠s0→∀(a:Act) (W:World) (b:Bool),WI b W→(waitsN L 5 o s0=true→b=true)→(∀o0,(L.take n)[s0]?=some o0→b=true→waits o0 i=false)→(∀j oj s,(L.take n)[j]?=some oj→oj.dst=some s→waits o j=true→T b j (a.tmps.getD s undef) W)→(∀s,keepsB (L.take n) i s=true→a.tmps.getD s undef=a0.tmps.getD s undef)→Lays P (T b) i o a W)
  (hend:∀(a:Act) (W:World),WI true W→a.defers=a0.defers→a.tmps.size=a0.tmps.size→(∀s,((L.take n).all fun o=>decide (o.dst≠some s))=true→a.tmps.getD s undef=a0.tmps.getD s undef)→(∀i o s,(L.take n)[i]?=some o→o.dst=some s→T true i (a.tmps.getD s undef) W)→wpList P L.toArray Q (L.drop n) a W) :
  (Code.region id L.toArray true).wp P Q a0 w0 :=
 wp_region_any hm (any_fine_turn (L.take n) (L.drop n) (List.take_append_drop n L).symm s0 hs0 WI Rel T hW0 hWB (by rw[List.take_append_drop];exact hlastS) hp (by rw[List.take_append_drop];exact hb0) ht hlast hguard hspec (by rw[List.take_append_drop];exact hstep) (by rw[List.take_append_drop];exact hend))
end Go.Own.Fr
namespace Go.Own.Fr
open Go Go.RowKit Go.Own
theorem getD_set_selfJ{done:Array Bool}{i:Nat}(h:i<done.size):(done.setIfInBounds i true).getD i false=true:=by
 simp[Array.getD,h]
structure FInvH(l:List Oper)(s0:Nat)(WI:Bool→World→Prop)(T:Bool→Nat→Value→World→Prop)(a0:Act)(done:Array Bool)(a:Act)(W:World):Prop where
 world:WI (done.getD s0 false) W
 defers:a.defers=a0.defers
 size:a.tmps.size=a0.tmps.size
 fixed:∀s,(∀i o,l[i]?=some o→done.getD i false=true→o.dst≠some s)→a.tmps.getD s undef=a0.tmps.getD s undef
 vals:∀i o s,l[i]?=some o→done.getD i false=true→o.dst=some s→T (done.getD s0 false) i (a.tmps.getD s undef) W
 closed:∀i o,l[i]?=some o→done.getD i false=true→∀e∈o.after,Region.binds .any e=true→done.getD e.on false=true
def plainH(l:List Oper)(n s0:Nat):Bool :=
 (l.zipIdx.all fun (o,i)=>o.after.all fun e=>!Region.binds .any e||decide (e.on<i))&&(l.zipIdx.all fun (o,i)=>(decide (i=s0)||o.dst.any (fun s=>decide (s<n)))&&(match o.guard with | none=>true | some (j,_)=>waits o j&&decide (j≠s0)))&&decide ((l.map fun o=>o.dst).Nodup)&&(match l[s0]? with | none=>false | some o=>o.dst.isNone)
theorem any_fine_store{P:Program}{Q:Exit→Act→World→Prop}{a0:Act}{w0:World}(hd tl:List Oper){L:List Oper}(hL:L=hd++tl)(s0:Nat)(hs0:s0<hd.length)(WI:Bool→World→Prop)(T:Bool→Nat→Value→World→Prop)(hW0:WI false { w0 with drawn:=w0.drawn+1 })(hWB:∀b W W',WI b W→Below W.heap.size W W'→WI b W')(hp:plainH hd a0.tmps.size s0=true)
  (hb0:((hd++tl).zipIdx.all fun (o,i)=>o.after.all fun e=>!Region.binds .any e||decide (e.on<i))=true) (ht:tailB hd tl=true)
  (hlast:∀b i v W W',T b i v W→Below W.heap.size W W'→T b i v W')
  (hguard:∀(i:Nat) (o:Oper) j b,hd[i]?=some o→o.guard=some (j,b)→∀ph v W,T ph j v W→v=.bool b)
  (hspec:∀o,hd[s0]?=some o→∀(a:Act) (W:World),WI false W→(∀j oj s,hd[j]?=some oj→oj.dst=some s→waits o j=true→T false j (a.tmps.getD s undef) W)→(∀s,keepsB hd s0 s=true→a.tmps.getD s undef=a0.tmps.getD s undef)→∀Q,o.wp P a W (fun a' W'=>a'=a∧WI true W'∧∀j oj s,hd[j]?=some oj→waitsN (hd++tl) 5 oj s0=false→j≠s0→oj.dst=some s→T false j (a.tmps.getD s undef) W→T true j (a.tmps.getD s undef) W') Q)
  (hstep:∀i o,hd[i]?=some o→i≠s0→∀(a:Act) (W:World) (b:Bool),WI b W→(waitsN (hd++tl) 5 o s0=true→b=true)→(∀o0,hd[s0]?=some o0→b=true→waits o0 i=false)→(∀j oj s,hd[j]?=some oj→oj.dst=some s→waits o j=true→T b j (a.tmps.getD s undef) W)→(∀s,keepsB hd i s=true→a.tmps.getD s undef=a0.tmps.getD s undef)→Lays P (T b) i o a W)
  (hend:∀(a:Act) (W:World),WI true W→a.defers=a0.defers→a.tmps.size=a0.tmps.size→(∀s,(hd.all fun o=>decide (o.dst≠some s))=true→a.tmps.getD s undef=a0.tmps.getD s undef)→(∀i o s,hd[i]?=some o→o.dst=some s→T true i (a.tmps.getD s undef) W)→wpList P (hd++tl).toArray Q tl a W) :
  wpAny P .any L.toArray Q L.toArray.size (Array.replicate L.toArray.size false) a0 { w0 with drawn:=w0.drawn+1 }:=by
 subst hL
 simp only[plainH,Bool.and_eq_true,decide_eq_true_eq]at hp
 obtain⟨⟨⟨hb,hg⟩,hn⟩,hz0⟩:=hp
 have hg2:∀(i:Nat) (o:Oper),hd[i]?=some o→(i≠s0→∃s,o.dst=some s∧s<a0.tmps.size)∧∀j b,o.guard=some (j,b)→waits o j=true∧j≠s0:=fun i o ho=>by
  have h1:=List.all_eq_true.1 hg (o,i) (by rw[List.mem_zipIdx_iff_getElem?];simpa using ho)
  simp only[Bool.and_eq_true,Bool.or_eq_true,Option.any_eq_true,decide_eq_true_eq]at h1
  refine⟨fun hne=>(h1.1.resolve_left hne),fun j b hjb=>?_⟩
  have h2:=h1.2
  rw[hjb]at h2
  simpa using h2
 have hz1:∀o,hd[s0]?=some o→o.dst=none:=fun o ho=>by
  rw[ho]at hz0
  simpa using hz0
 have hnd:∀(i j:Nat) (oi oj:Oper),hd[i]?=some oi→hd[j]?=some oj→oi.dst=oj.dst→i=j:=fun i j oi oj h1 h2 e=>by
  have hi:=(List.getElem?_eq_some_iff.1 h1).1
  have hj:=(List.getElem?_eq_some_iff.1 h2).1
  refine(List.getElem_inj (xs:=hd.map fun o=>o.dst) (h₀:=by simpa using hi) (h₁:=by simpa using hj) hn).1 ?_
  simp only[List.getElem_map]
  rw[(List.getElem?_eq_some_iff.1 h1).2,(List.getElem?_eq_some_iff.1 h2).2,e]
 have hhd:∀ {i:Nat},i<hd.length→(hd++tl)[i]?=hd[i]?:=fun h=>List.getElem?_append_left h
 have htl:∀ {k:Nat} {o:Oper},(hd++tl)[hd.length+k]?=some o→∀j,j<hd.length+k→waitsN (hd++tl) 5 o j=true:=fun {k o} ho j hj=>by
  rw[List.getElem?_append_right (by omega),Nat.add_sub_cancel_left]at ho
  have h1:=List.all_eq_true.1 ht (o,k) (by rw[List.mem_zipIdx_iff_getElem?];simpa using ho)
  exact List.all_eq_true.1 h1 j (List.mem_range.2 hj)
 refine wpAny_of_inv2 (fun done a W=>done.size=(hd++tl).length∧(∀i o,(hd++tl)[i]?=some o→done.getD i false=true→∀e∈o.after,Region.binds .any e=true→done.getD e.on false=true) ∧
   (((∀i,hd.length≤i→done.getD i false=false)∧FInvH hd s0 WI T a0 done a W) ∨
    ∃m,(∀i,i<hd.length+m→done.getD i false=true)∧(∀i,hd.length+m≤i→done.getD i false=false)∧wpList P (hd++tl).toArray Q (tl.drop m) a W)) (by simpa using hb0) ?_ ?_ _ _ _ _ (by simp) ?_ ?_
 ·rintro done a W i ⟨hds,hcl,hI⟩ hnd1 hdep hlt
  have hil:i<(hd++tl).length:=by simpa using hlt
  have ho:(hd++tl)[i]?=some (hd++tl)[i]:=List.getElem?_eq_getElem hil
  generalize hoi:(hd++tl)[i]=o at ho
  have hnf:done.getD i false=false:=by
   cases h:done.getD i false with
   |false=>rfl
   |true=>rw[getD_both hnd1]at h;cases h
  have hdo:=hdep o (by simpa using ho)
  have hcl':∀j oj,(hd++tl)[j]?=some oj→(done.setIfInBounds i true).getD j false=true→∀e∈oj.after,Region.binds .any e=true→(done.setIfInBounds i true).getD e.on false=true:=fun j oj hj hdj e he hbi=>by
   rcases done_set hdj with h1 | h1
   ·subst h1
    have:oj=o:=Option.some.inj (hj.symm.trans ho)
    subst this
    have h2:=hdo e he hbi
    by_cases e2:i=e.on
    ·rw[←e2]at h2;rw[hnf]at h2;cases h2
    ·rw[getD_set_ne false e2];exact h2
   ·have h2:=hcl j oj hj h1 e he hbi
    by_cases e2:i=e.on
    ·rw[←e2]at h2;rw[hnf]at h2;cases h2
    ·rw[getD_set_ne false e2];exact h2
  have hw2:∀k,i=hd.length+k→∀j,j<i→done.getD j false=true:=fun k hk j hj=>by
   exact waitsN_done hcl 5 o j hdo (htl (k:=k) (o:=o) (by rw[←hk];exact ho) j (by omega))
  have hseq:∀m,i=hd.length+m→(∀j,j<i→done.getD j false=true)→(∀j,i≤j→done.getD j false=false)→wpList P (hd++tl).toArray Q (tl.drop m) a W →
    wpOp P (hd++tl).toArray Q i (fun a' W'=>(done.setIfInBounds i true).size=(hd++tl).length∧(∀i_1 o,(hd++tl)[i_1]?=some o→(done.setIfInBounds i true).getD i_1 false=true→∀e∈o.after,Region.binds .any e=true→(done.setIfInBounds i true).getD e.on false=true) ∧
     (((∀j,hd.length≤j→(done.setIfInBounds i true).getD j false=false)∧FInvH hd s0 WI T a0 (done.setIfInBounds i true) a' W') ∨
      ∃m,(∀j,j<hd.length+m→(done.setIfInBounds i true).getD j false=true)∧(∀j,hd.length+m≤j→(done.setIfInBounds i true).getD j false=false)∧wpList P (hd++tl).toArray Q (tl.drop m) a' W')) a W:=fun m hm1 hlow hhigh hl=>by
   have hom:tl[m]?=some o:=by
    have:=ho
    rw[hm1,List.getElem?_append_right (by omega),Nat.add_sub_cancel_left]at this
    exact this
   have hml:=(List.getElem?_eq_some_iff.1 hom).1
   rw[List.drop_eq_getElem_cons hml,(List.getElem?_eq_some_iff.1 hom).2]at hl
   have hK:∀a' W',wpList P (hd++tl).toArray Q (tl.drop (m+1)) a' W'→((done.setIfInBounds i true).size=(hd++tl).length∧(∀i_1 o,(hd++tl)[i_1]?=some o→(done.setIfInBounds i true).getD i_1 false=true→∀e∈o.after,Region.binds .any e=true→(done.setIfInBounds i true).getD e.on false=true) ∧
     (((∀j,hd.length≤j→(done.setIfInBounds i true).getD j false=false)∧FInvH hd s0 WI T a0 (done.setIfInBounds i true) a' W') ∨
      ∃m,(∀j,j<hd.length+m→(done.setIfInBounds i true).getD j false=true)∧(∀j,hd.length+m≤j→(done.setIfInBounds i true).getD j false=false)∧wpList P (hd++tl).toArray Q (tl.drop m) a' W')):=fun a' W' h=>by
    refine⟨by simp[hds],hcl',.inr ⟨m+1,fun j hj=>?_,fun j hj=>?_,h⟩⟩
    ·by_cases e:i=j
     ·subst e;simp[hds▸hil]
     ·rw[getD_set_ne false e];exact hlow j (by omega)
    ·rw[getD_set_ne false (by omega)];exact hhigh j (by omega)
   unfold wpOp
   have ho':(hd++tl).toArray[i]?=some o:=by simpa using ho
   rw[ho']
   simp only[wpList]at hl
   split at hl
   ·rename_i hw
    simp only[hw,if_true]
    exact hl.imp (Oper.wp_mono hK) fun h=>h
   ·rename_i hw
    simp only[hw]
    exact hK _ _ hl
  rcases hI with⟨hT0,hI⟩ | ⟨m,hlow,hhigh,hl⟩
  ·by_cases hih:i<hd.length
   ·rw[hhd hih]at ho
    have hgn:=(hg2 i o ho).2
    have hvals:∀j oj s,hd[j]?=some oj→oj.dst=some s→waits o j=true→T (done.getD s0 false) j (a.tmps.getD s undef) W:=fun j oj sj hj hsj hw=>by
     obtain⟨e,he,hbi,hon⟩:=waits_spec hw
     exact hI.vals j oj sj hj (hon▸hdo e he hbi) hsj
    have hfix:∀s',keepsB hd i s'=true→a.tmps.getD s' undef=a0.tmps.getD s' undef:=fun s' hk=>hI.fixed s' fun j oj hj hdj hds2=>by
     have h1:=List.all_eq_true.1 hk (oj,j) (by rw[List.mem_zipIdx_iff_getElem?];simpa using hj)
     simp only[Bool.or_eq_true,decide_eq_true_eq]at h1
     rcases h1 with(h1 | h1) | h1
     ·exact h1 hds2
     ·subst h1;rw[hnf]at hdj;cases hdj
     ·obtain⟨e,he,hbi,hon⟩:=waits_spec h1
      have h2:=hI.closed j oj hj hdj e he hbi
      rw[hon,hnf]at h2;cases h2
    refine wpOp_want o (by simpa [hhd hih]using ho) (by
     cases hgd:o.guard with
     |none=>simp[Region.wanted,hgd]
     |some p =>
      obtain⟨j,b⟩:=p
      obtain⟨hw,hjs⟩:=hgn j b hgd
      obtain⟨e,he,hbi,hon⟩:=waits_spec hw
      have hdj:done.getD j false=true:=hon▸hdo e he hbi
      have hjl:j<hd.length:=by
       rcases Nat.lt_or_ge j hd.length with h | h
       ·exact h
       ·rw[hT0 j h]at hdj;cases hdj
      have hoj:hd[j]?=some hd[j]:=List.getElem?_eq_getElem hjl
      obtain⟨sj,hsj,hsjz⟩:=(hg2 j _ hoj).1 hjs
      have hT:=hvals j _ sj hoj hsj hw
      have hv:=hguard i o j b ho hgd _ _ _ hT
      have ht2:a.tmps[sj]?=some (.bool b):=by
       have h3:sj<a.tmps.size:=by rw[hI.size];exact hsjz
       rw[←hv]
       simp[Array.getD,h3]
      have hoj2:(hd++tl)[j]?=some hd[j]:=by rw[hhd hjl];exact hoj
      simp[Region.wanted,hgd,yielded,hoj2,hsj,ht2]) ?_
    by_cases his:i=s0
    ·subst his
     have hw:=hI.world
     rw[hnf]at hw hvals
     have hdz:=hz1 o ho
     refine Oper.wp_mono ?_ (hspec o ho a W hw hvals hfix _)
     rintro a' W' ⟨rfl,hWt,hT⟩
     refine⟨by simp[hds],hcl',.inl ⟨fun j hj=>by rw[getD_set_ne false (by omega)];exact hT0 j hj,?_⟩⟩
     have hself:(done.setIfInBounds i true).getD i false=true:=getD_set_selfJ (by omega)
     refine⟨by rw[hself];exact hWt,hI.defers,hI.size,fun k hk=>?_,fun j oj sj hj hdj hsj=>?_,fun j oj hj hdj e he hbi=>?_⟩
     ·exact hI.fixed k fun j oj hj hdj=>hk j oj hj (by
       by_cases e:i=j
       ·subst e;rw[hnf]at hdj;cases hdj
       ·rw[getD_set_ne false e];exact hdj)
     ·rw[hself]
      rcases done_set hdj with h1 | h1
      ·subst h1
       have:oj=o:=Option.some.inj (hj.symm.trans ho)
       subst this
       rw[hdz]at hsj;cases hsj
      ·have hv:=hI.vals j oj sj hj h1 hsj
       rw[hnf]at hv
       refine hT j oj sj hj ?_ (fun e=>by subst e;rw[hnf]at h1;cases h1) hsj hv
       cases hwn:waitsN (hd++tl) 5 oj i with
       |false=>rfl
       |true =>
        have h9:=waitsN_done hcl 5 oj i (fun e he hbi=>hcl j oj (by rw[hhd (List.getElem?_eq_some_iff.1 hj).1];exact hj) h1 e he hbi) hwn
        rw[hnf]at h9;cases h9
     ·exact hcl' j oj (by rw[hhd (List.getElem?_eq_some_iff.1 hj).1];exact hj) hdj e he hbi
    ·obtain⟨s,hs,hsz⟩:=(hg2 i o ho).1 his
     have hkeep:(done.setIfInBounds i true).getD s0 false=done.getD s0 false:=getD_set_ne false his
     refine Oper.wp_mono ?_ (hstep i o ho his a W _ hI.world (fun hw=>waitsN_done hcl 5 o s0 hdo hw) (fun o0 ho0 hb=>by
      cases hwt:waits o0 i with
      |false=>rfl
      |true =>
       obtain⟨e,he,hbi,hon⟩:=waits_spec hwt
       have h2:=hI.closed s0 o0 ho0 hb e he hbi
       rw[hon,hnf]at h2;cases h2) hvals hfix _)
     rintro a' W' ⟨v,rfl,hB,hTi⟩
     refine⟨by simp[hds],hcl',.inl ⟨fun j hj=>by rw[getD_set_ne false (by omega)];exact hT0 j hj,?_⟩⟩
     have hput:=fun k=>put_at (a:=a) (s:=s) (v:=v) (by rw[hI.size];exact hsz) k
     rw[hs]
     refine⟨by rw[hkeep];exact hWB _ _ _ hI.world hB,hI.defers,?_,fun k hk=>?_,fun j oj sj hj hdj hsj=>?_,fun j oj hj hdj e he hbi=>?_⟩
     ·simp[Act.put,hI.size]
     ·rw[hput k]
      have hne:k≠s:=fun e=>hk i o ho (by
       have hds:i<done.size:=by omega
       simp[hds]) (by rw[e];exact hs)
      rw[if_neg hne]
      exact hI.fixed k fun j oj hj hdj=>hk j oj hj (by
       by_cases e:i=j
       ·subst e;rw[hnf]at hdj;cases hdj
       ·rw[getD_set_ne false e];exact hdj)
     ·rw[hput sj,hkeep]
      rcases done_set hdj with h1 | h1
      ·subst h1
       have:oj=o:=Option.some.inj (hj.symm.trans ho)
       subst this
       rw[if_pos (Option.some.inj (hsj.symm.trans hs))]
       exact hTi
      ·have hne:sj≠s:=fun e=>by
        have:=hnd j i oj o hj ho (by rw[hsj,hs,e])
        subst this
        rw[hnf]at h1;cases h1
       rw[if_neg hne]
       exact hlast _ _ _ _ _ (hI.vals j oj sj hj h1 hsj) hB
     ·exact hcl' j oj (by rw[hhd (List.getElem?_eq_some_iff.1 hj).1];exact hj) hdj e he hbi
   ·obtain⟨k,hk⟩:∃k,i=hd.length+k:=⟨i-hd.length,by omega⟩
    have hlow:=hw2 k hk
    have hk0:k=0:=by
     rcases Nat.eq_zero_or_pos k with h | h
     ·exact h
     ·have h1:=hlow hd.length (by omega)
      rw[hT0 _ (Nat.le_refl _)]at h1;cases h1
    subst hk0
    refine hseq 0 hk hlow (fun j hj=>hT0 j (by omega)) ?_
    rw[List.drop_zero]
    exact hend a W (by have h9:=hI.world;rw[hlow s0 (by omega)]at h9;exact h9) hI.defers hI.size (fun s hs=>hI.fixed s fun j o ho _=>by
     have:=List.all_eq_true.1 hs o (List.mem_of_getElem? ho)
     simpa using this) (fun j o s ho hs=>by have h9:=hI.vals j o s ho (hlow j (by have:=(List.getElem?_eq_some_iff.1 ho).1;omega)) hs;rw[hlow s0 (by omega)]at h9;exact h9)
  ·have him:i=hd.length+m:=by
    rcases Nat.lt_trichotomy i (hd.length+m)with h | h | h
    ·rw[hlow i h]at hnf;cases hnf
    ·exact h
    ·obtain⟨k,hk⟩:∃k,i=hd.length+k:=⟨i-hd.length,by omega⟩
     have h1:=hw2 k hk (hd.length+m) h
     rw[hhigh _ (Nat.le_refl _)]at h1;cases h1
   exact hseq m him (fun j hj=>hlow j (by omega)) (fun j hj=>hhigh j (by omega)) hl
 ·rintro done a W ⟨hds,hcl,hI⟩ hall
  have hall':∀i,i<(hd++tl).length→done.getD i false=true:=fun i hi=>hall i (by simpa using hi)
  rcases hI with⟨hT0,hI⟩ | ⟨m,hlow,hhigh,hl⟩
  ·have h0:tl=[]:=by
    cases tl with
    |nil=>rfl
    |cons o r =>
     have h1:=hall' hd.length (by simp)
     rw[hT0 _ (Nat.le_refl _)]at h1;cases h1
   subst h0
   exact hend a W (by have h9:=hI.world;rw[hall' s0 (by simpa using hs0)]at h9;exact h9) hI.defers hI.size (fun s hs=>hI.fixed s fun j o ho _=>by
     have:=List.all_eq_true.1 hs o (List.mem_of_getElem? ho)
     simpa using this) (fun j o s ho hs=>by have h9:=hI.vals j o s ho (hall' j (by have:=(List.getElem?_eq_some_iff.1 ho).1;simp;omega)) hs;rw[hall' s0 (by simp;omega)]at h9;exact h9)
  ·have hml:tl.length≤m:=by
    rcases Nat.lt_or_ge m tl.length with h | h
    ·have h1:=hall' (hd.length+m) (by simp;omega)
     rw[hhigh _ (Nat.le_refl _)]at h1;cases h1
    ·exact h
   rw[List.drop_of_length_le hml]at hl
   exact hl
 ·have hc:∀(n m:Nat),((List.range m).countP fun i=>!(Array.replicate n false).getD i true)≤m:=fun n m=>by
   have:=List.countP_le_length (l:=List.range m) (p:=fun i=>!(Array.replicate n false).getD i true)
   simpa using this
  exact hc _ _
 ·have hz:∀n j,(Array.replicate n false).getD j false≠true:=fun n j h=>by rw[getD_replicate_false]at h;cases h
  exact⟨by simp,fun i o _ h=>absurd h (hz _ _),.inl ⟨fun i _=>getD_replicate_false _ _,by rw[getD_replicate_false];exact hW0,rfl,rfl,fun _ _=>rfl,fun i o s _ h=>absurd h (hz _ _),fun i o _ h=>absurd h (hz _ _)⟩⟩
theorem wp_region_fine_store{P:Program}{id:Nat}{Q:Exit→Act→World→Prop}{a0:Act}{w0:World}{L:List Oper}(n s0:Nat)(hs0:s0<(L.take n).length)(WI:Bool→World→Prop)(T:Bool→Nat→Value→World→Prop)(hm:P.follows .mixedOrders=true)(hp:plainH (L.take n) a0.tmps.size s0=true)
  (hb0:(L.zipIdx.all fun (o,i)=>o.after.all fun e=>!Region.binds .any e||decide (e.on<i))=true) (ht:tailB (L.take n) (L.drop n)=true)
  (hW0:WI false { w0 with drawn:=w0.drawn+1 }) (hWB:∀b W W',WI b W→Below W.heap.size W W'→WI b W')
  (hlast:∀b i v W W',T b i v W→Below W.heap.size W W'→T b i v W')
  (hguard:∀(i:Nat) (o:Oper) j b,(L.take n)[i]?=some o→o.guard=some (j,b)→∀ph v W,T ph j v W→v=.bool b)
  (hspec:∀o,(L.take n)[s0]?=some o→∀(a:Act) (W:World),WI false W→(∀j oj s,(L.take n)[j]?=some oj→oj.dst=some s→waits o j=true→T false j (a.tmps.getD s undef) W)→(∀s,keepsB (L.take n) s0 s=true→a.tmps.getD s undef=a0.tmps.getD s undef)→∀Q,o.wp P a W (fun a' W'=>a'=a∧WI true W'∧∀j oj s,(L.take n)[j]?=some oj→waitsN L 5 oj s0=false→j≠s0→oj.dst=some s→T false j (a.tmps.getD s undef) W→T true j (a.tmps.getD s undef) W') Q)
  (hstep:∀i o,(L.take n)[i]?=some o→i≠s0→∀(a:Act) (W:World) (b:Bool),WI b W→(waitsN L 5 o s0=true→b=true)→(∀o0,(L.take n)[s0]?=some o0→b=true→waits o0 i=false)→(∀j oj s,(L.take n)[j]?=some oj→oj.dst=some s→waits o j=true→T b j (a.tmps.getD s undef) W)→(∀s,keepsB (L.take n) i s=true→a.tmps.getD s undef=a0.tmps.getD s undef)→Lays P (T b) i o a W)
  (hend:∀(a:Act) (W:World),WI true W→a.defers=a0.defers→a.tmps.size=a0.tmps.size→(∀s,((L.take n).all fun o=>decide (o.dst≠some s))=true→a.tmps.getD s undef=a0.tmps.getD s undef)→(∀i o s,(L.take n)[i]?=some o→o.dst=some s→T true i (a.tmps.getD s undef) W)→wpList P L.toArray Q (L.drop n) a W) :
  (Code.region id L.toArray true).wp P Q a0 w0 :=
 wp_region_any hm (any_fine_store (L.take n) (L.drop n) (List.take_append_drop n L).symm s0 hs0 WI T hW0 hWB hp (by rw[List.take_append_drop];exact hb0) ht hlast hguard (by rw[List.take_append_drop];exact hspec) (by rw[List.take_append_drop];exact hstep) (by rw[List.take_append_drop];exact hend))
end Go.Own.Fr

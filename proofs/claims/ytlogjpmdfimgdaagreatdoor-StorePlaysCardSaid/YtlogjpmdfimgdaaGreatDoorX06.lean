/- A region that draws its order and whose operations make memory of their own: each operation's value by a property that lasts; no order is gone through. No condition. | A region that draws its order, whose operations read, make memory, or call what leaves what was there: each operation's value by a property that lasts; guards that are met. No condition. | A region that draws its order: its first operations by properties that last, its last ones, which wait for them all, one by one. No condition. -/
import Derived.WalkKit
import Derived.StillTail
import Derived.Still
import Derived.Deep.Quiet
import Derived.Deep.QuietTactic
import Derived.Below
namespace Go.Own.Fr
open Go Go.RowKit Go.Own
theorem ready_ne{md:Region.Mode}{ops:Array Oper}{done:Array Bool}(hs:done.size=ops.size)(hb:(ops.toList.zipIdx.all fun (o,i)=>o.after.all fun e=>decide (e.on<i))=true)
  {i:Nat} (hi:done.getD i true=false):Region.ready md ops done≠[]:=by
 induction i using Nat.strongRecOn with
 |_ i ih =>
  have hlt:i<done.size:=by
   rcases Nat.lt_or_ge i done.size with h | h
   ·exact h
   ·simp[h]at hi
  have ho:ops[i]?=some ops[i]:=by simp[hs▸hlt]
  by_cases hr:i∈Region.ready md ops done
  ·exact List.ne_nil_of_mem hr
  ·have h1:∃e∈ops[i].after,done.getD e.on false≠true:=by
    apply Classical.byContradiction
    intro hn
    apply hr
    refine mem_ready.2 ⟨hi,_,ho,fun e he _=>?_⟩
    apply Classical.byContradiction
    intro h2
    exact hn ⟨e,he,h2⟩
   obtain⟨e,he,h2⟩:=h1
   have hlt2:e.on<i:=by
    have h3:=List.all_eq_true.1 hb (ops[i],i) (by
     rw[List.mem_zipIdx_iff_getElem?]
     simp[hs▸hlt])
    have h4:ops[i].after.all (fun e=>decide (e.on<i))=true:=h3
    rw[Array.all_eq_true_iff_forall_mem]at h4
    exact of_decide_eq_true (h4 e he)
   refine ih e.on hlt2 ?_
   have:e.on<done.size:=by omega
   simp[Array.getD,this]at h2 ⊢
   exact h2
theorem getD_set_self_true{i:Nat}{done:Array Bool}:(done.setIfInBounds i true).getD i true=true:=by
 rcases Nat.lt_or_ge i done.size with h | h
 ·simp[h]
 ·simp
theorem done_set{done:Array Bool}{i j:Nat}(h:(done.setIfInBounds i true).getD j false=true):i=j∨done.getD j false=true:=by
 by_cases hij:i=j
 ·exact Or.inl hij
 ·rw[getD_set_ne false hij]at h;exact Or.inr h
def waits(o:Oper)(i:Nat):Bool:=o.after.any fun e=>Region.binds .any e&&decide (e.on=i)
theorem waits_spec{o:Oper}{i:Nat}(h:waits o i=true):∃e∈o.after,Region.binds .any e=true∧e.on=i:=by
 obtain⟨j,hj,h2⟩:=Array.any_eq_true.1 h
 simp only[Bool.and_eq_true,decide_eq_true_eq]at h2
 exact⟨o.after[j],Array.getElem_mem hj,h2⟩
def keepsB(l:List Oper)(i s:Nat):Bool:=l.zipIdx.all fun (o,j)=>decide (o.dst≠some s)||decide (j=i)||waits o i
def reads(o:Oper)(i:Nat):Bool:=o.after.any fun e=>Region.binds .any e&&decide (e.on=i)&&(match e.ground with | .data=>true | _=>false)
def lastB(l:List Oper)(j:Nat):Bool:=l.all fun o=>!reads o j
theorem put_at{a:Act}{s:Nat}{v:Value}(h:s<a.tmps.size)(k:Nat):(a.put (some s) v).tmps.getD k undef=if k=s then v else a.tmps.getD k undef:=by
 simp only[Act.put]
 by_cases e:k=s
 ·subst e;simp[h]
 ·rw[if_neg e]
  simp only[Array.getD_eq_getD_getElem?]
  rw[Array.getElem?_setIfInBounds_ne (fun h=>e h.symm)]
end Go.Own.Fr
namespace Go.Own.Fr
open Go Go.RowKit Go.Own
theorem ready_ne2{md:Region.Mode}{ops:Array Oper}{done:Array Bool}(hs:done.size=ops.size)(hb:(ops.toList.zipIdx.all fun (o,i)=>o.after.all fun e=>!Region.binds md e||decide (e.on<i))=true)
  {i:Nat} (hi:done.getD i true=false):Region.ready md ops done≠[]:=by
 induction i using Nat.strongRecOn with
 |_ i ih =>
  have hlt:i<done.size:=by
   rcases Nat.lt_or_ge i done.size with h | h
   ·exact h
   ·simp[h]at hi
  have ho:ops[i]?=some ops[i]:=by simp[hs▸hlt]
  by_cases hr:i∈Region.ready md ops done
  ·exact List.ne_nil_of_mem hr
  ·have h1:∃e∈ops[i].after,Region.binds md e=true∧done.getD e.on false≠true:=by
    apply Classical.byContradiction
    intro hn
    apply hr
    refine mem_ready.2 ⟨hi,_,ho,fun e he hbi=>?_⟩
    apply Classical.byContradiction
    intro h2
    exact hn ⟨e,he,hbi,h2⟩
   obtain⟨e,he,hbi,h2⟩:=h1
   have hlt2:e.on<i:=by
    have h3:=List.all_eq_true.1 hb (ops[i],i) (by
     rw[List.mem_zipIdx_iff_getElem?]
     simp[hs▸hlt])
    have h4:ops[i].after.all (fun e=>!Region.binds md e||decide (e.on<i))=true:=h3
    rw[Array.all_eq_true_iff_forall_mem]at h4
    have h5:=h4 e he
    rw[hbi]at h5
    simpa using h5
   refine ih e.on hlt2 ?_
   have:e.on<done.size:=by omega
   simp[Array.getD,this]at h2 ⊢
   exact h2
theorem wpAny_of_inv2{P:Program}{ops:Array Oper}{Q:Exit→Act→World→Prop}(Inv:Array Bool→Act→World→Prop)
  (hb:(ops.toList.zipIdx.all fun (o,i)=>o.after.all fun e=>!Region.binds .any e||decide (e.on<i))=true)
  (hstep:∀done a w i,Inv done a w→done.getD i true=false→(∀o,ops[i]?=some o→∀e∈o.after,Region.binds .any e=true→done.getD e.on false=true)→i<ops.size→wpOp P ops Q i (Inv (done.setIfInBounds i true)) a w)
  (hend:∀done a w,Inv done a w→(∀i,i<ops.size→done.getD i false=true)→Q .normal a w) :
  ∀(fuel:Nat) (done:Array Bool) (a:Act) (w:World),done.size=ops.size→(List.range ops.size).countP (fun i=>!done.getD i true)≤fuel→Inv done a w→wpAny P .any ops Q fuel done a w:=by
 have hall:∀done:Array Bool,done.size=ops.size→Region.ready .any ops done=[]→∀i,i<ops.size→done.getD i false=true:=fun done hs h i hi=>by
  have h1:¬done.getD i true=false:=fun h2=>ready_ne2 hs hb h2 h
  have:i<done.size:=by omega
  simp[Array.getD,this]at h1 ⊢
  exact h1
 have wpOp_to:∀ {i:Nat} {K K':Act→World→Prop} {a:Act} {w:World},(∀a w,K a w→K' a w)→wpOp P ops Q i K a w→wpOp P ops Q i K' a w:=fun hK h=>wpOp_mono hK h
 intro fuel
 induction fuel with
 |zero =>
  intro done a w hs hc hI
  have hr:Region.ready .any ops done=[]:=by
   cases hr:Region.ready .any ops done with
   |nil=>rfl
   |cons i r =>
    have hi:i∈Region.ready .any ops done:=by rw[hr];exact List.mem_cons_self
    have h1:=(mem_ready.1 hi).1
    have h2:i<ops.size:=by
     obtain⟨o,ho,_⟩:=(mem_ready.1 hi).2
     exact(Array.getElem?_eq_some_iff.1 ho).1
    have h3:0<(List.range ops.size).countP (fun i=>!done.getD i true):=List.countP_pos_iff.2 ⟨i,List.mem_range.2 h2,by rw[h1];rfl⟩
    omega
  exact⟨hr,hend _ _ _ hI (hall _ hs hr)⟩
 |succ fuel ih =>
  intro done a w hs hc hI
  refine⟨fun h=>hend _ _ _ hI (hall _ hs h),fun i hi=>?_⟩
  obtain⟨h1,o,ho,h3⟩:=mem_ready.1 hi
  have h2:i<ops.size:=(Array.getElem?_eq_some_iff.1 ho).1
  refine wpOp_to (fun a' w' h=>ih _ _ _ (by simp[hs]) ?_ h) (hstep done a w i hI h1 (fun o' ho'=>by rw[ho]at ho';cases ho';exact h3) h2)
  have hlt:(List.range ops.size).countP (fun j=>!(done.setIfInBounds i true).getD j true)<(List.range ops.size).countP (fun j=>!done.getD j true):=by
   have hsub:∀(l:List Nat),i∈l→l.countP (fun j=>!(done.setIfInBounds i true).getD j true)<l.countP (fun j=>!done.getD j true):=by
    have hle:∀(l:List Nat),l.countP (fun j=>!(done.setIfInBounds i true).getD j true)≤l.countP (fun j=>!done.getD j true):=fun l=>List.countP_mono_left fun j _ hj=>by
     by_cases hij:i=j
     ·subst hij
      have hz:(done.setIfInBounds i true).getD i true=true:=getD_set_self_true
      rw[hz]at hj;cases hj
     ·rwa [getD_set_ne true hij]at hj
    intro l
    induction l with
    |nil=>intro h;cases h
    |cons x l ihl =>
     intro h
     rw[List.countP_cons,List.countP_cons]
     by_cases hx:i=x
     ·subst hx
      have hz:(done.setIfInBounds i true).getD i true=true:=getD_set_self_true
      have:=hle l
      rw[hz,h1]
      simp only[Bool.not_true,Bool.not_false,Bool.false_eq_true,if_false,if_true]
      omega
     ·have:=ihl (List.mem_of_ne_of_mem hx h)
      rw[getD_set_ne true hx]
      omega
   exact hsub _ (List.mem_range.2 h2)
  omega
def plainG(l:List Oper)(n:Nat):Bool :=
 (l.zipIdx.all fun (o,i)=>o.after.all fun e=>!Region.binds .any e||decide (e.on<i))&&l.all (fun o=>o.dst.any (fun s=>decide (s<n))&&(match o.guard with | none=>true | some (j,_)=>waits o j))&&decide ((l.map fun o=>o.dst).Nodup)
structure FInv(l:List Oper)(T:Nat→Value→World→Prop)(a0:Act)(w0:World)(done:Array Bool)(a:Act)(W:World):Prop where
 below:Below w0.heap.size w0 W
 defers:a.defers=a0.defers
 size:a.tmps.size=a0.tmps.size
 fixed:∀s,(∀i o,l[i]?=some o→done.getD i false=true→o.dst≠some s)→a.tmps.getD s undef=a0.tmps.getD s undef
 vals:∀i o s,l[i]?=some o→done.getD i false=true→o.dst=some s→T i (a.tmps.getD s undef) W
 closed:∀i o,l[i]?=some o→done.getD i false=true→∀e∈o.after,Region.binds .any e=true→done.getD e.on false=true
theorem wpOp_want{P:Program}{ops:Array Oper}{Q:Exit→Act→World→Prop}{i:Nat}{K:Act→World→Prop}{a:Act}{w:World}(o:Oper)(hi:ops[i]?=some o)(hg:Region.wanted o (yielded ops a.tmps)=true)(h:o.wp P a w K Q):wpOp P ops Q i K a w:=by
 unfold wpOp
 rw[hi]
 simp only[hg,if_true]
 exact Or.inl h
def Lays(P:Program)(T:Nat→Value→World→Prop)(i:Nat)(o:Oper)(a:Act)(W:World):Prop :=
 ∀Q,o.wp P a W (fun a' W'=>∃v,a'=a.put o.dst v∧Below W.heap.size W W'∧T i v W') Q
theorem wp_region_fine{P:Program}{id:Nat}{Q:Exit→Act→World→Prop}{a0:Act}{w0:World}{l:List Oper}(T:Nat→Value→World→Prop)(hm:P.follows .mixedOrders=true)(hp:plainG l a0.tmps.size=true)
  (hlast:∀i v W W',T i v W→Below W.heap.size W W'→T i v W')
  (hguard:∀(i:Nat) (o:Oper) j b,l[i]?=some o→o.guard=some (j,b)→∀v W,T j v W→v=.bool b)
  (hstep:∀i o,l[i]?=some o→∀(a:Act) (W:World),Below w0.heap.size w0 W→(∀j oj s,l[j]?=some oj→oj.dst=some s→waits o j=true→T j (a.tmps.getD s undef) W)→(∀s,keepsB l i s=true→a.tmps.getD s undef=a0.tmps.getD s undef)→Lays P T i o a W)
  (hend:∀(a:Act) (W:World),Below w0.heap.size w0 W→a.defers=a0.defers→a.tmps.size=a0.tmps.size→(∀s,(l.all fun o=>decide (o.dst≠some s))=true→a.tmps.getD s undef=a0.tmps.getD s undef)→(∀i o s,l[i]?=some o→o.dst=some s→T i (a.tmps.getD s undef) W)→Q .normal a W) :
  (Code.region id l.toArray true).wp P Q a0 w0:=by
 simp only[plainG,Bool.and_eq_true,decide_eq_true_eq]at hp
 obtain⟨⟨hb,hg⟩,hn⟩:=hp
 have hg2:∀(i:Nat) (o:Oper),l[i]?=some o→(∃s,o.dst=some s∧s<a0.tmps.size)∧∀j b,o.guard=some (j,b)→waits o j=true:=fun i o ho=>by
  have h1:=List.all_eq_true.1 hg o (List.mem_of_getElem? ho)
  simp only[Bool.and_eq_true,Option.any_eq_true,decide_eq_true_eq]at h1
  refine⟨h1.1,fun j b hjb=>?_⟩
  have h2:=h1.2
  rw[hjb]at h2
  exact h2
 have hnd:∀(i j:Nat) (oi oj:Oper),l[i]?=some oi→l[j]?=some oj→oi.dst=oj.dst→i=j:=fun i j oi oj h1 h2 e=>by
  have hi:=(List.getElem?_eq_some_iff.1 h1).1
  have hj:=(List.getElem?_eq_some_iff.1 h2).1
  refine(List.getElem_inj (xs:=l.map fun o=>o.dst) (h₀:=by simpa using hi) (h₁:=by simpa using hj) hn).1 ?_
  simp only[List.getElem_map]
  rw[(List.getElem?_eq_some_iff.1 h1).2,(List.getElem?_eq_some_iff.1 h2).2,e]
 refine wp_region_any hm ?_
 refine wpAny_of_inv2 (fun done a W=>done.size=l.length∧FInv l T a0 w0 done a W) (by simpa using hb) ?_ ?_ _ _ _ _ (by simp) ?_ ?_
 ·rintro done a W i ⟨hds,hI⟩ hnd1 hdep hlt
  have hil:i<l.length:=by simpa using hlt
  have ho:l[i]?=some l[i]:=List.getElem?_eq_getElem hil
  generalize hoi:l[i]=o at ho
  obtain⟨⟨s,hs,hsz⟩,hgw⟩:=hg2 i o ho
  have hnf:done.getD i false=false:=by
   cases h:done.getD i false with
   |false=>rfl
   |true=>rw[getD_both hnd1]at h;cases h
  have hvals:∀j oj s,l[j]?=some oj→oj.dst=some s→waits o j=true→T j (a.tmps.getD s undef) W:=fun j oj sj hj hsj hw=>by
   obtain⟨e,he,hbi,hon⟩:=waits_spec hw
   exact hI.vals j oj sj hj (hon▸hdep o (by simpa using ho) e he hbi) hsj
  refine wpOp_want o (by simpa using ho) ?_ (Oper.wp_mono ?_ (hstep i o ho a W hI.below hvals (fun s' hk=>hI.fixed s' fun j oj hj hdj hds2=>by
   have h1:=List.all_eq_true.1 hk (oj,j) (by rw[List.mem_zipIdx_iff_getElem?];simpa using hj)
   simp only[Bool.or_eq_true,decide_eq_true_eq]at h1
   rcases h1 with(h1 | h1) | h1
   ·exact h1 hds2
   ·subst h1;rw[hnf]at hdj;cases hdj
   ·obtain⟨e,he,hbi,hon⟩:=waits_spec h1
    have h2:=hI.closed j oj hj hdj e he hbi
    rw[hon,hnf]at h2;cases h2) _))
  ·cases hgd:o.guard with
   |none=>simp[Region.wanted,hgd]
   |some p =>
    obtain⟨j,b⟩:=p
    have hw:=hgw j b hgd
    obtain⟨e,he,hbi,hon⟩:=waits_spec hw
    have hdj:done.getD j false=true:=hon▸hdep o (by simpa using ho) e he hbi
    have hjl:j<l.length:=by
     rcases Nat.lt_or_ge j done.size with h | h
     ·omega
     ·simp[h]at hdj
    have hoj:l[j]?=some l[j]:=List.getElem?_eq_getElem hjl
    obtain⟨⟨sj,hsj,hsjz⟩,_⟩:=hg2 j _ hoj
    have hT:=hvals j _ sj hoj hsj hw
    have hv:=hguard i o j b ho hgd _ _ hT
    have ht:a.tmps[sj]?=some (.bool b):=by
     have h3:sj<a.tmps.size:=by rw[hI.size];exact hsjz
     rw[←hv]
     simp[Array.getD,h3]
    simp[Region.wanted,hgd,yielded,hoj,hsj,ht]
  ·rintro a' W' ⟨v,rfl,hB,hTi⟩
   refine⟨by simp[hds],?_⟩
   have hput:=fun k=>put_at (a:=a) (s:=s) (v:=v) (by rw[hI.size];exact hsz) k
   rw[hs]
   refine⟨hI.below.trans (hB.mono hI.below.size),hI.defers,?_,fun k hk=>?_,fun j oj sj hj hdj hsj=>?_,fun j oj hj hdj e he hbi=>?_⟩
   ·simp[Act.put,hI.size]
   ·rw[hput k]
    have hne:k≠s:=fun e=>hk i o ho (by
     have hds:i<done.size:=by omega
     simp[hds]) (by rw[e];exact hs)
    rw[if_neg hne]
    exact hI.fixed k fun j oj hj hdj=>hk j oj hj (by
     by_cases e:i=j
     ·subst e;rw[hnf]at hdj;cases hdj
     ·rw[getD_set_ne false e];exact hdj)
   ·rw[hput sj]
    rcases done_set hdj with h1 | h1
    ·subst h1
     have:oj=o:=Option.some.inj (hj.symm.trans ho)
     subst this
     rw[if_pos (Option.some.inj (hsj.symm.trans hs))]
     exact hTi
    ·have hne:sj≠s:=fun e=>by
      have:=hnd j i oj o hj ho (by rw[hsj,hs,e])
      subst this
      rw[hnf]at h1;cases h1
     rw[if_neg hne]
     exact hlast _ _ _ _ (hI.vals j oj sj hj h1 hsj) hB
   ·rcases done_set hdj with h1 | h1
    ·subst h1
     have:oj=o:=Option.some.inj (hj.symm.trans ho)
     subst this
     have h2:=hdep oj (by simpa using ho) e he hbi
     by_cases e2:i=e.on
     ·rw[←e2]at h2;rw[hnf]at h2;cases h2
     ·rw[getD_set_ne false e2];exact h2
    ·have h2:=hI.closed j oj hj h1 e he hbi
     by_cases e2:i=e.on
     ·rw[←e2]at h2;rw[hnf]at h2;cases h2
     ·rw[getD_set_ne false e2];exact h2
 ·rintro done a W ⟨hds,hI⟩ hall
  refine hend a W hI.below hI.defers hI.size (fun s hs=>hI.fixed s fun i o ho _=>?_) (fun i o s ho hs=>hI.vals i o s ho (hall i ?_) hs)
  ·have:=List.all_eq_true.1 hs o (List.mem_of_getElem? ho)
   simpa using this
  ·have:=(List.getElem?_eq_some_iff.1 ho).1
   simpa using this
 ·have hc:∀(n m:Nat),((List.range m).countP fun i=>!(Array.replicate n false).getD i true)≤m:=fun n m=>by
   have:=List.countP_le_length (l:=List.range m) (p:=fun i=>!(Array.replicate n false).getD i true)
   simpa using this
  exact hc _ _
 ·have hz:∀n j,(Array.replicate n false).getD j false≠true:=fun n j h=>by rw[getD_replicate_false]at h;cases h
  exact⟨by simp,⟨rfl,rfl,rfl,Nat.le_refl _,fun _ _=>rfl⟩,rfl,rfl,fun _ _=>rfl,fun i o s _ h=>absurd h (hz _ _),fun i o _ h=>absurd h (hz _ _)⟩
theorem lays_value{P:Program}{T:Nat→Value→World→Prop}{i:Nat}{o:Oper}{a:Act}{W W':World}{v:Value}(hr:(execOp a.eval o).run P W=.ok (.value v) W')(hB:Below W.heap.size W W')(hT:T i v W'):Lays P T i o a W:=fun Q=>by
 unfold Oper.wp
 rw[hr]
 exact⟨v,rfl,hB,hT⟩
theorem lays_same{P:Program}{T:Nat→Value→World→Prop}{i:Nat}{o:Oper}{a:Act}{W:World}{v:Value}(hr:(execOp a.eval o).run P W=.ok (.value v) W)(hT:T i v W):Lays P T i o a W:=lays_value hr (Below.refl _ _) hT
theorem lays_call{P:Program}{T:Nat→Value→World→Prop}{i:Nat}{a:Act}{W:World}{dst:Option Tmp}{f:FuncId}{xs:Array Operand}{ats:Array TypeId}{ty:TypeId}{pos:String}{after:Array Edge}{guard:Option (Nat×Bool)}(args:Array Value)(hargs:xs.map a.eval=args)
  (hf:(callFunc f args).run P W=.ok (.enter f args) W) (hc:Calls P f args W fun e W'=>∃v,e=.returned v∧Below W.heap.size W W'∧T i v W'):Lays P T i { dst,op:=.call { callee:=.value (.func f),args:=xs,argTypes:=ats },type:=ty,pos,after,guard } a W:=fun Q=>by
 unfold Oper.wp
 rw[execOp_call_go,hargs]
 simp only[Array.empty_append,Array.append_empty]
 rw[hf]
 refine hc.mono ?_
 rintro e W' ⟨v,rfl,hB,hT⟩
 exact⟨v,rfl,hB,hT⟩
end Go.Own.Fr
namespace Go.Own.Fr
open Go Go.RowKit Go.Own
def waitsN(l:List Oper):Nat→Oper→Nat→Bool
 |0,o,j=>waits o j
 |n+1,o,j=>waits o j||l.zipIdx.any fun (o2,m)=>waits o m&&waitsN l n o2 j
theorem waitsN_done{l:List Oper}{done:Array Bool}(hcl:∀i o,l[i]?=some o→done.getD i false=true→∀e∈o.after,Region.binds .any e=true→done.getD e.on false=true) :
  ∀(n:Nat) (o:Oper) (j:Nat),(∀e∈o.after,Region.binds .any e=true→done.getD e.on false=true)→waitsN l n o j=true→done.getD j false=true
 |0,o,j,hdo,h=>by
  obtain⟨e,he,hbi,hon⟩:=waits_spec h
  exact hon▸hdo e he hbi
 |n+1,o,j,hdo,h=>by
  unfold waitsN at h
  rw[Bool.or_eq_true]at h
  rcases h with h | h
  ·obtain⟨e,he,hbi,hon⟩:=waits_spec h
   exact hon▸hdo e he hbi
  ·obtain⟨⟨o2,m⟩,hm2,h⟩:=List.any_eq_true.1 h
   rw[List.mem_zipIdx_iff_getElem?]at hm2
   simp only[Bool.and_eq_true]at h
   obtain⟨e,he,hbi,hon⟩:=waits_spec h.1
   have h2:=hdo e he hbi
   rw[hon]at h2
   exact waitsN_done hcl n o2 j (hcl m o2 (by simpa using hm2) h2) h.2
def tailB(hd tl:List Oper):Bool:=tl.zipIdx.all fun (o,k)=>(List.range (hd.length+k)).all fun j=>waitsN (hd++tl) 5 o j
theorem any_fine_tail{P:Program}{Q:Exit→Act→World→Prop}{a0:Act}{w0:World}(hd tl:List Oper){L:List Oper}(hL:L=hd++tl)(T:Nat→Value→World→Prop)(hp:plainG hd a0.tmps.size=true)
  (hb0:((hd++tl).zipIdx.all fun (o,i)=>o.after.all fun e=>!Region.binds .any e||decide (e.on<i))=true) (ht:tailB hd tl=true)
  (hlast:∀i v W W',T i v W→Below W.heap.size W W'→T i v W')
  (hguard:∀(i:Nat) (o:Oper) j b,hd[i]?=some o→o.guard=some (j,b)→∀v W,T j v W→v=.bool b)
  (hstep:∀i o,hd[i]?=some o→∀(a:Act) (W:World),Below w0.heap.size w0 W→(∀j oj s,hd[j]?=some oj→oj.dst=some s→waits o j=true→T j (a.tmps.getD s undef) W)→(∀s,keepsB hd i s=true→a.tmps.getD s undef=a0.tmps.getD s undef)→Lays P T i o a W)
  (hend:∀(a:Act) (W:World),Below w0.heap.size w0 W→a.defers=a0.defers→a.tmps.size=a0.tmps.size→(∀s,(hd.all fun o=>decide (o.dst≠some s))=true→a.tmps.getD s undef=a0.tmps.getD s undef)→(∀i o s,hd[i]?=some o→o.dst=some s→T i (a.tmps.getD s undef) W)→wpList P (hd++tl).toArray Q tl a W) :
  wpAny P .any L.toArray Q L.toArray.size (Array.replicate L.toArray.size false) a0 { w0 with drawn:=w0.drawn+1 }:=by
 subst hL
 simp only[plainG,Bool.and_eq_true,decide_eq_true_eq]at hp
 obtain⟨⟨hb,hg⟩,hn⟩:=hp
 have hg2:∀(i:Nat) (o:Oper),hd[i]?=some o→(∃s,o.dst=some s∧s<a0.tmps.size)∧∀j b,o.guard=some (j,b)→waits o j=true:=fun i o ho=>by
  have h1:=List.all_eq_true.1 hg o (List.mem_of_getElem? ho)
  simp only[Bool.and_eq_true,Option.any_eq_true,decide_eq_true_eq]at h1
  refine⟨h1.1,fun j b hjb=>?_⟩
  have h2:=h1.2
  rw[hjb]at h2
  exact h2
 have hnd:∀(i j:Nat) (oi oj:Oper),hd[i]?=some oi→hd[j]?=some oj→oi.dst=oj.dst→i=j:=fun i j oi oj h1 h2 e=>by
  have hi:=(List.getElem?_eq_some_iff.1 h1).1
  have hj:=(List.getElem?_eq_some_iff.1 h2).1
  refine(List.getElem_inj (xs:=hd.map fun o=>o.dst) (h₀:=by simpa using hi) (h₁:=by simpa using hj) hn).1 ?_
  simp only[List.getElem_map]
  rw[(List.getElem?_eq_some_iff.1 h1).2,(List.getElem?_eq_some_iff.1 h2).2,e]
 have hhd:∀ {i:Nat},i<hd.length→(hd++tl)[i]?=hd[i]?:=fun h=>List.getElem?_append_left h
 have htl:∀ {k:Nat} {o:Oper},(hd++tl)[hd.length+k]?=some o→∀j,j<hd.length+k→waitsN (hd++tl) 5 o j=true:=fun {k o} ho j hj=>by
  rw[List.getElem?_append_right (by omega),Nat.add_sub_cancel_left]at ho
  have h1:=List.all_eq_true.1 ht (o,k) (by rw[List.mem_zipIdx_iff_getElem?];simpa using ho)
  exact List.all_eq_true.1 h1 j (List.mem_range.2 hj)
 refine wpAny_of_inv2 (fun done a W=>done.size=(hd++tl).length∧(∀i o,(hd++tl)[i]?=some o→done.getD i false=true→∀e∈o.after,Region.binds .any e=true→done.getD e.on false=true) ∧
   (((∀i,hd.length≤i→done.getD i false=false)∧FInv hd T a0 w0 done a W) ∨
    ∃m,(∀i,i<hd.length+m→done.getD i false=true)∧(∀i,hd.length+m≤i→done.getD i false=false)∧wpList P (hd++tl).toArray Q (tl.drop m) a W)) (by simpa using hb0) ?_ ?_ _ _ _ _ (by simp) ?_ ?_
 ·rintro done a W i ⟨hds,hcl,hI⟩ hnd1 hdep hlt
  have hil:i<(hd++tl).length:=by simpa using hlt
  have ho:(hd++tl)[i]?=some (hd++tl)[i]:=List.getElem?_eq_getElem hil
  generalize hoi:(hd++tl)[i]=o at ho
  have hnf:done.getD i false=false:=by
   cases h:done.getD i false with
   |false=>rfl
   |true=>rw[getD_both hnd1]at h;cases h
  have hdo:=hdep o (by simpa using ho)
  have hcl':∀j oj,(hd++tl)[j]?=some oj→(done.setIfInBounds i true).getD j false=true→∀e∈oj.after,Region.binds .any e=true→(done.setIfInBounds i true).getD e.on false=true:=fun j oj hj hdj e he hbi=>by
   rcases done_set hdj with h1 | h1
   ·subst h1
    have:oj=o:=Option.some.inj (hj.symm.trans ho)
    subst this
    have h2:=hdo e he hbi
    by_cases e2:i=e.on
    ·rw[←e2]at h2;rw[hnf]at h2;cases h2
    ·rw[getD_set_ne false e2];exact h2
   ·have h2:=hcl j oj hj h1 e he hbi
    by_cases e2:i=e.on
    ·rw[←e2]at h2;rw[hnf]at h2;cases h2
    ·rw[getD_set_ne false e2];exact h2
  have hw2:∀k,i=hd.length+k→∀j,j<i→done.getD j false=true:=fun k hk j hj=>by
   exact waitsN_done hcl 5 o j hdo (htl (k:=k) (o:=o) (by rw[←hk];exact ho) j (by omega))
  have hseq:∀m,i=hd.length+m→(∀j,j<i→done.getD j false=true)→(∀j,i≤j→done.getD j false=false)→wpList P (hd++tl).toArray Q (tl.drop m) a W →
    wpOp P (hd++tl).toArray Q i (fun a' W'=>(done.setIfInBounds i true).size=(hd++tl).length∧(∀i_1 o,(hd++tl)[i_1]?=some o→(done.setIfInBounds i true).getD i_1 false=true→∀e∈o.after,Region.binds .any e=true→(done.setIfInBounds i true).getD e.on false=true) ∧
     (((∀j,hd.length≤j→(done.setIfInBounds i true).getD j false=false)∧FInv hd T a0 w0 (done.setIfInBounds i true) a' W') ∨
      ∃m,(∀j,j<hd.length+m→(done.setIfInBounds i true).getD j false=true)∧(∀j,hd.length+m≤j→(done.setIfInBounds i true).getD j false=false)∧wpList P (hd++tl).toArray Q (tl.drop m) a' W')) a W:=fun m hm1 hlow hhigh hl=>by
   have hom:tl[m]?=some o:=by
    have:=ho
    rw[hm1,List.getElem?_append_right (by omega),Nat.add_sub_cancel_left]at this
    exact this
   have hml:=(List.getElem?_eq_some_iff.1 hom).1
   rw[List.drop_eq_getElem_cons hml,(List.getElem?_eq_some_iff.1 hom).2]at hl
   have hK:∀a' W',wpList P (hd++tl).toArray Q (tl.drop (m+1)) a' W'→((done.setIfInBounds i true).size=(hd++tl).length∧(∀i_1 o,(hd++tl)[i_1]?=some o→(done.setIfInBounds i true).getD i_1 false=true→∀e∈o.after,Region.binds .any e=true→(done.setIfInBounds i true).getD e.on false=true) ∧
     (((∀j,hd.length≤j→(done.setIfInBounds i true).getD j false=false)∧FInv hd T a0 w0 (done.setIfInBounds i true) a' W') ∨
      ∃m,(∀j,j<hd.length+m→(done.setIfInBounds i true).getD j false=true)∧(∀j,hd.length+m≤j→(done.setIfInBounds i true).getD j false=false)∧wpList P (hd++tl).toArray Q (tl.drop m) a' W')):=fun a' W' h=>by
    refine⟨by simp[hds],hcl',.inr ⟨m+1,fun j hj=>?_,fun j hj=>?_,h⟩⟩
    ·by_cases e:i=j
     ·subst e;simp[hds▸hil]
     ·rw[getD_set_ne false e];exact hlow j (by omega)
    ·rw[getD_set_ne false (by omega)];exact hhigh j (by omega)
   unfold wpOp
   have ho':(hd++tl).toArray[i]?=some o:=by simpa using ho
   rw[ho']
   simp only[wpList]at hl
   split at hl
   ·rename_i hw
    simp only[hw,if_true]
    exact hl.imp (Oper.wp_mono hK) fun h=>h
   ·rename_i hw
    simp only[hw]
    exact hK _ _ hl
  rcases hI with⟨hT0,hI⟩ | ⟨m,hlow,hhigh,hl⟩
  ·by_cases hih:i<hd.length
   ·rw[hhd hih]at ho
    obtain⟨⟨s,hs,hsz⟩,hgw⟩:=hg2 i o ho
    have hvals:∀j oj s,hd[j]?=some oj→oj.dst=some s→waits o j=true→T j (a.tmps.getD s undef) W:=fun j oj sj hj hsj hw=>by
     obtain⟨e,he,hbi,hon⟩:=waits_spec hw
     exact hI.vals j oj sj hj (hon▸hdo e he hbi) hsj
    refine wpOp_want o (by simpa [hhd hih]using ho) ?_ (Oper.wp_mono ?_ (hstep i o ho a W hI.below hvals (fun s' hk=>hI.fixed s' fun j oj hj hdj hds2=>by
     have h1:=List.all_eq_true.1 hk (oj,j) (by rw[List.mem_zipIdx_iff_getElem?];simpa using hj)
     simp only[Bool.or_eq_true,decide_eq_true_eq]at h1
     rcases h1 with(h1 | h1) | h1
     ·exact h1 hds2
     ·subst h1;rw[hnf]at hdj;cases hdj
     ·obtain⟨e,he,hbi,hon⟩:=waits_spec h1
      have h2:=hI.closed j oj hj hdj e he hbi
      rw[hon,hnf]at h2;cases h2) _))
    ·cases hgd:o.guard with
     |none=>simp[Region.wanted,hgd]
     |some p =>
      obtain⟨j,b⟩:=p
      have hw:=hgw j b hgd
      obtain⟨e,he,hbi,hon⟩:=waits_spec hw
      have hdj:done.getD j false=true:=hon▸hdo e he hbi
      have hjl:j<hd.length:=by
       rcases Nat.lt_or_ge j hd.length with h | h
       ·exact h
       ·rw[hT0 j h]at hdj;cases hdj
      have hoj:hd[j]?=some hd[j]:=List.getElem?_eq_getElem hjl
      obtain⟨⟨sj,hsj,hsjz⟩,_⟩:=hg2 j _ hoj
      have hT:=hvals j _ sj hoj hsj hw
      have hv:=hguard i o j b ho hgd _ _ hT
      have ht2:a.tmps[sj]?=some (.bool b):=by
       have h3:sj<a.tmps.size:=by rw[hI.size];exact hsjz
       rw[←hv]
       simp[Array.getD,h3]
      have hoj2:(hd++tl)[j]?=some hd[j]:=by rw[hhd hjl];exact hoj
      simp[Region.wanted,hgd,yielded,hoj2,hsj,ht2]
    ·rintro a' W' ⟨v,rfl,hB,hTi⟩
     refine⟨by simp[hds],hcl',.inl ⟨fun j hj=>by rw[getD_set_ne false (by omega)];exact hT0 j hj,?_⟩⟩
     have hput:=fun k=>put_at (a:=a) (s:=s) (v:=v) (by rw[hI.size];exact hsz) k
     rw[hs]
     refine⟨hI.below.trans (hB.mono hI.below.size),hI.defers,?_,fun k hk=>?_,fun j oj sj hj hdj hsj=>?_,fun j oj hj hdj e he hbi=>?_⟩
     ·simp[Act.put,hI.size]
     ·rw[hput k]
      have hne:k≠s:=fun e=>hk i o ho (by
       have hds:i<done.size:=by omega
       simp[hds]) (by rw[e];exact hs)
      rw[if_neg hne]
      exact hI.fixed k fun j oj hj hdj=>hk j oj hj (by
       by_cases e:i=j
       ·subst e;rw[hnf]at hdj;cases hdj
       ·rw[getD_set_ne false e];exact hdj)
     ·rw[hput sj]
      rcases done_set hdj with h1 | h1
      ·subst h1
       have:oj=o:=Option.some.inj (hj.symm.trans ho)
       subst this
       rw[if_pos (Option.some.inj (hsj.symm.trans hs))]
       exact hTi
      ·have hne:sj≠s:=fun e=>by
        have:=hnd j i oj o hj ho (by rw[hsj,hs,e])
        subst this
        rw[hnf]at h1;cases h1
       rw[if_neg hne]
       exact hlast _ _ _ _ (hI.vals j oj sj hj h1 hsj) hB
     ·exact hcl' j oj (by rw[hhd (List.getElem?_eq_some_iff.1 hj).1];exact hj) hdj e he hbi
   ·obtain⟨k,hk⟩:∃k,i=hd.length+k:=⟨i-hd.length,by omega⟩
    have hlow:=hw2 k hk
    have hk0:k=0:=by
     rcases Nat.eq_zero_or_pos k with h | h
     ·exact h
     ·have h1:=hlow hd.length (by omega)
      rw[hT0 _ (Nat.le_refl _)]at h1;cases h1
    subst hk0
    refine hseq 0 hk hlow (fun j hj=>hT0 j (by omega)) ?_
    rw[List.drop_zero]
    exact hend a W hI.below hI.defers hI.size (fun s hs=>hI.fixed s fun j o ho _=>by
     have:=List.all_eq_true.1 hs o (List.mem_of_getElem? ho)
     simpa using this) (fun j o s ho hs=>hI.vals j o s ho (hlow j (by have:=(List.getElem?_eq_some_iff.1 ho).1;omega)) hs)
  ·have him:i=hd.length+m:=by
    rcases Nat.lt_trichotomy i (hd.length+m)with h | h | h
    ·rw[hlow i h]at hnf;cases hnf
    ·exact h
    ·obtain⟨k,hk⟩:∃k,i=hd.length+k:=⟨i-hd.length,by omega⟩
     have h1:=hw2 k hk (hd.length+m) h
     rw[hhigh _ (Nat.le_refl _)]at h1;cases h1
   exact hseq m him (fun j hj=>hlow j (by omega)) (fun j hj=>hhigh j (by omega)) hl
 ·rintro done a W ⟨hds,hcl,hI⟩ hall
  have hall':∀i,i<(hd++tl).length→done.getD i false=true:=fun i hi=>hall i (by simpa using hi)
  rcases hI with⟨hT0,hI⟩ | ⟨m,hlow,hhigh,hl⟩
  ·have h0:tl=[]:=by
    cases tl with
    |nil=>rfl
    |cons o r =>
     have h1:=hall' hd.length (by simp)
     rw[hT0 _ (Nat.le_refl _)]at h1;cases h1
   subst h0
   exact hend a W hI.below hI.defers hI.size (fun s hs=>hI.fixed s fun j o ho _=>by
     have:=List.all_eq_true.1 hs o (List.mem_of_getElem? ho)
     simpa using this) (fun j o s ho hs=>hI.vals j o s ho (hall' j (by have:=(List.getElem?_eq_some_iff.1 ho).1;simp;omega)) hs)
  ·have hml:tl.length≤m:=by
    rcases Nat.lt_or_ge m tl.length with h | h
    ·have h1:=hall' (hd.length+m) (by simp;omega)
     rw[hhigh _ (Nat.le_refl _)]at h1;cases h1
    ·exact h
   rw[List.drop_of_length_le hml]at hl
   exact hl
 ·have hc:∀(n m:Nat),((List.range m).countP fun i=>!(Array.replicate n false).getD i true)≤m:=fun n m=>by
   have:=List.countP_le_length (l:=List.range m) (p:=fun i=>!(Array.replicate n false).getD i true)
   simpa using this
  exact hc _ _
 ·have hz:∀n j,(Array.replicate n false).getD j false≠true:=fun n j h=>by rw[getD_replicate_false]at h;cases h
  exact⟨by simp,fun i o _ h=>absurd h (hz _ _),.inl ⟨fun i _=>getD_replicate_false _ _,⟨rfl,rfl,rfl,Nat.le_refl _,fun _ _=>rfl⟩,rfl,rfl,fun _ _=>rfl,fun i o s _ h=>absurd h (hz _ _),fun i o _ h=>absurd h (hz _ _)⟩⟩
theorem wp_region_fine_tail{P:Program}{id:Nat}{Q:Exit→Act→World→Prop}{a0:Act}{w0:World}(hd tl:List Oper){L:List Oper}(hL:L=hd++tl)(T:Nat→Value→World→Prop)(hm:P.follows .mixedOrders=true)(hp:plainG hd a0.tmps.size=true)
  (hb0:((hd++tl).zipIdx.all fun (o,i)=>o.after.all fun e=>!Region.binds .any e||decide (e.on<i))=true) (ht:tailB hd tl=true)
  (hlast:∀i v W W',T i v W→Below W.heap.size W W'→T i v W')
  (hguard:∀(i:Nat) (o:Oper) j b,hd[i]?=some o→o.guard=some (j,b)→∀v W,T j v W→v=.bool b)
  (hstep:∀i o,hd[i]?=some o→∀(a:Act) (W:World),Below w0.heap.size w0 W→(∀j oj s,hd[j]?=some oj→oj.dst=some s→waits o j=true→T j (a.tmps.getD s undef) W)→(∀s,keepsB hd i s=true→a.tmps.getD s undef=a0.tmps.getD s undef)→Lays P T i o a W)
  (hend:∀(a:Act) (W:World),Below w0.heap.size w0 W→a.defers=a0.defers→a.tmps.size=a0.tmps.size→(∀s,(hd.all fun o=>decide (o.dst≠some s))=true→a.tmps.getD s undef=a0.tmps.getD s undef)→(∀i o s,hd[i]?=some o→o.dst=some s→T i (a.tmps.getD s undef) W)→wpList P (hd++tl).toArray Q tl a W) :
  (Code.region id L.toArray true).wp P Q a0 w0:=wp_region_any hm (any_fine_tail hd tl hL T hp hb0 ht hlast hguard hstep hend)
def TL(ps:List (Value→World→Prop))(i:Nat):Value→World→Prop:=ps.getD i fun _ _=>True
def Lasts(p:Value→World→Prop):Prop:=∀v W W',p v W→Below W.heap.size W W'→p v W'
def eqv(x:Value):Value→World→Prop:=fun v _=>v=x
theorem eqv_last(x:Value):Lasts (eqv x):=fun _ _ _ h _=>h
theorem TL_last{ps:List (Value→World→Prop)}(h:∀p∈ps,Lasts p)(i:Nat)(v:Value)(W W':World)(hT:TL ps i v W)(hB:Below W.heap.size W W'):TL ps i v W':=by
 unfold TL at *
 rw[List.getD_eq_getElem?_getD]at *
 cases hi:ps[i]? with
 |none=>rw[hi]at hT;trivial
 |some p=>rw[hi]at hT;exact h p (List.mem_of_getElem? hi) _ _ _ hT hB
theorem TL_no_guard{hd:List Oper}(h:hd.all (fun o=>o.guard.isNone)=true){T:Nat→Value→World→Prop}:∀(i:Nat) (o:Oper) j b,hd[i]?=some o→o.guard=some (j,b)→∀v W,T j v W→v=.bool b:=fun i o j b ho hg=>by
 have:=List.all_eq_true.1 h o (List.mem_of_getElem? ho)
 rw[hg]at this;cases this
theorem lays_eq{P:Program}{T:Nat→Value→World→Prop}{i:Nat}{o:Oper}{a:Act}{W:World}(v:Value)(hT:T i v W)(hr:(execOp a.eval o).run P W=.ok (.value v) W):Lays P T i o a W:=lays_same hr hT
theorem exec_move{P:Program}{ρ:Operand→Value}{W:World}{dst:Option Tmp}{ty:TypeId}{pos:String}{after:Array Edge}{guard:Option (Nat×Bool)}{v:Value}{x:Operand}(h:ρ x=v):(execOp ρ { dst,op:=.move x,type:=ty,pos,after,guard }).run P W=.ok (.value v) W:=by
 subst h;rfl
theorem frame_lit(a:Act)(n:Nat)(h:a.tmps.size=n)(hd:a.defers=[]):a={ tmps:=((List.range n).map fun k=>a.tmps.getD k undef).toArray,defers:=[] }:=by
 obtain⟨t,d⟩:=a
 simp only at h hd
 subst hd
 congr 1
 apply Array.ext
 ·simp[h]
 ·intro i h1 h2
  simp[Array.getD,h1]
end Go.Own.Fr
namespace Go.Own.Fr
open Go Go.RowKit Go.Own
theorem wp_region_fine_drop{P:Program}{id:Nat}{Q:Exit→Act→World→Prop}{a0:Act}{w0:World}{L:List Oper}(n:Nat)(T:Nat→Value→World→Prop)(hm:P.follows .mixedOrders=true)(hp:plainG (L.take n) a0.tmps.size=true)
  (hb0:(L.zipIdx.all fun (o,i)=>o.after.all fun e=>!Region.binds .any e||decide (e.on<i))=true) (ht:tailB (L.take n) (L.drop n)=true)
  (hlast:∀i v W W',T i v W→Below W.heap.size W W'→T i v W')
  (hguard:∀(i:Nat) (o:Oper) j b,(L.take n)[i]?=some o→o.guard=some (j,b)→∀v W,T j v W→v=.bool b)
  (hstep:∀i o,(L.take n)[i]?=some o→∀(a:Act) (W:World),Below w0.heap.size w0 W→(∀j oj s,(L.take n)[j]?=some oj→oj.dst=some s→waits o j=true→T j (a.tmps.getD s undef) W)→(∀s,keepsB (L.take n) i s=true→a.tmps.getD s undef=a0.tmps.getD s undef)→Lays P T i o a W)
  (hend:∀(a:Act) (W:World),Below w0.heap.size w0 W→a.defers=a0.defers→a.tmps.size=a0.tmps.size→(∀s,((L.take n).all fun o=>decide (o.dst≠some s))=true→a.tmps.getD s undef=a0.tmps.getD s undef)→(∀i o s,(L.take n)[i]?=some o→o.dst=some s→T i (a.tmps.getD s undef) W)→wpList P L.toArray Q (L.drop n) a W) :
  (Code.region id L.toArray true).wp P Q a0 w0 :=
 wp_region_fine_tail (L.take n) (L.drop n) (List.take_append_drop n L).symm T hm hp (by rw[List.take_append_drop];exact hb0) ht hlast hguard hstep (by rw[List.take_append_drop];exact hend)
theorem any_fine_drop{P:Program}{Q:Exit→Act→World→Prop}{a0:Act}{w0:World}{L:List Oper}(n:Nat)(T:Nat→Value→World→Prop)(hp:plainG (L.take n) a0.tmps.size=true)
  (hb0:(L.zipIdx.all fun (o,i)=>o.after.all fun e=>!Region.binds .any e||decide (e.on<i))=true) (ht:tailB (L.take n) (L.drop n)=true)
  (hlast:∀i v W W',T i v W→Below W.heap.size W W'→T i v W')
  (hguard:∀(i:Nat) (o:Oper) j b,(L.take n)[i]?=some o→o.guard=some (j,b)→∀v W,T j v W→v=.bool b)
  (hstep:∀i o,(L.take n)[i]?=some o→∀(a:Act) (W:World),Below w0.heap.size w0 W→(∀j oj s,(L.take n)[j]?=some oj→oj.dst=some s→waits o j=true→T j (a.tmps.getD s undef) W)→(∀s,keepsB (L.take n) i s=true→a.tmps.getD s undef=a0.tmps.getD s undef)→Lays P T i o a W)
  (hend:∀(a:Act) (W:World),Below w0.heap.size w0 W→a.defers=a0.defers→a.tmps.size=a0.tmps.size→(∀s,((L.take n).all fun o=>decide (o.dst≠some s))=true→a.tmps.getD s undef=a0.tmps.getD s undef)→(∀i o s,(L.take n)[i]?=some o→o.dst=some s→T i (a.tmps.getD s undef) W)→wpList P L.toArray Q (L.drop n) a W) :
  wpAny P .any L.toArray Q L.toArray.size (Array.replicate L.toArray.size false) a0 { w0 with drawn:=w0.drawn+1 } :=
 any_fine_tail (L.take n) (L.drop n) (List.take_append_drop n L).symm T hp (by rw[List.take_append_drop];exact hb0) ht hlast hguard hstep (by rw[List.take_append_drop];exact hend)
end Go.Own.Fr

/- A document's value that came in, opened. No condition. -/
import Derived.Test.YtlogjpmdfimgdaaGreatDoorX01
import Derived.ProofKit
import Derived.OpenShut
import Derived.Deep.Slices
import Derived.Deep.Fields
import Derived.ChangeSame
import Derived.ChangeArms
namespace Go.Proofs.YtlogjpmdfimgdaaGreatDoor
open Go.RowKit Go.Own Go.ChangeShapes Go.WideShapes Go.Deep
instance vInhabited:Inhabited V:=⟨.mk 0 0 { data:=#[] } false []⟩
theorem laidOut:laidOutB Tryz.prog=true:=by kernel_rfl
theorem cells59:Tryz.prog.cellsOf 59=5:=by kernel_rfl
theorem fieldsV:∃f0 f1 f2 f3 f4,Tryz.prog.underlying 59=some (.struct #[f0,f1,f2,f3,f4])∧oneCellFields Tryz.prog #[f0,f1,f2,f3,f4]=true∧f0.type=3∧f1.type=3∧f2.type=9∧f3.type=4∧f4.type=57 :=
 ⟨_,_,_,_,_,Tryz.underlying59,by kernel_rfl,rfl,rfl,rfl,rfl,rfl⟩
theorem in64_of{n:Int}(h:(Lit.int .i64 n).wf=true):In64 n:=by
 unfold In64 two63
 have h2:(decide (-9223372036854775808≤n)&&decide (n≤9223372036854775807))=true:=h
 rw[Bool.and_eq_true,decide_eq_true_eq,decide_eq_true_eq]at h2
 omega
set_option maxRecDepth 100000 in
theorem open_val{H:Type}{enc:TypeId×Value→H}{W:World}{base:Nat}{spare:Nat→Bool}{held:Bool}:∀(fuel:Nat) (cs:List Value) (x:DataW H×List MemPlace),
  DataW.trod enc Tryz.prog W base spare held fuel 59 cs=some x→∃v:V,Holds W (.agg cs.toArray) v:=by
 intro fuel
 induction fuel using Nat.strongRecOn with
 |_ fuel ih =>
  intro cs x h
  obtain⟨f0,f1,f2,f3,f4,hu,hone,t0,t1,t2,t3,t4⟩:=fieldsV
  obtain⟨xs,n,hfn,hx,hlen,hxl,hg⟩:=DataW.trod_struct hu h
  rw[cells59]at hlen
  match cs,hlen with
  | [c0,c1,c2,c3,c4],_ =>
   obtain⟨o0,k0⟩:=hone_of hone 0 f0 rfl
   obtain⟨o1,k1⟩:=hone_of hone 1 f1 rfl
   obtain⟨o2,k2⟩:=hone_of hone 2 f2 rfl
   obtain⟨o3,k3⟩:=hone_of hone 3 f3 rfl
   obtain⟨o4,k4⟩:=hone_of hone 4 f4 rfl
   match xs,hxl with
   | [y0,y1,y2,y3,y4],_ =>
    have g0:DataW.trod enc Tryz.prog W base spare held n f0.type [c0]=some y0:=by simpa [o0,k0]using hg 0 f0 rfl
    have g1:DataW.trod enc Tryz.prog W base spare held n f1.type [c1]=some y1:=by simpa [o1,k1]using hg 1 f1 rfl
    have g2:DataW.trod enc Tryz.prog W base spare held n f2.type [c2]=some y2:=by simpa [o2,k2]using hg 2 f2 rfl
    have g3:DataW.trod enc Tryz.prog W base spare held n f3.type [c3]=some y3:=by simpa [o3,k3]using hg 3 f3 rfl
    have g4:DataW.trod enc Tryz.prog W base spare held n f4.type [c4]=some y4:=by simpa [o4,k4]using hg 4 f4 rfl
    rw[t0]at g0
    rw[t1]at g1
    rw[t2]at g2
    rw[t3]at g3
    rw[t4]at g4
    obtain⟨k,e0,_,w0⟩:=DataW.trod_int Tryz.underlying3 g0
    obtain⟨m,e1,_,w1⟩:=DataW.trod_int Tryz.underlying3 g1
    obtain⟨s,e2,_,ls⟩:=DataW.trod_string Tryz.underlying9 g2
    obtain⟨b,e3,_⟩:=DataW.trod_bool Tryz.underlying4 g3
    simp only[List.cons.injEq,and_true]at e0 e1 e2 e3
    subst e0 e1 e2 e3
    unfold maxLen at ls
    rcases DataW.trod_slice Tryz.underlying57 g4 with⟨e4,_⟩ | ⟨a,len,cap,elems,rest,n',hn',e4,_,hb,hl,hm,hel,hi,_,_⟩
    ·simp only[List.cons.injEq,and_true]at e4
     subst e4
     exact⟨.mk k m s b [],.nil k m s b (in64_of w0) (in64_of w1) ls⟩
    ·simp only[List.cons.injEq,and_true]at e4
     subst e4
     unfold maxLen at hm
     have each:∀i,i<len→∃q:List Value×V,q.1.length=5∧Holds W (.agg q.1.toArray) q.2∧(∀j,j<5→W.cell? (a.add (i*5+j))=q.1[j]?):=fun i hil=>by
      have h1:=hi i hil
      rw[List.getElem?_eq_getElem (by omega),cells59]at h1
      obtain⟨cs',hc,ht⟩:=Option.bind_eq_some_iff.1 h1
      obtain⟨_,hcl,hat⟩:=World.cells?_some hc
      obtain⟨v,hv⟩:=ih n' (by omega) cs' _ ht
      exact⟨(cs',v),hcl,hv,fun j hj=>by rw[←Go.Deep.add_add];exact hat j hj⟩
     obtain⟨q,hq⟩:=choose_lt each
     by_cases hz:len=0
     ·subst hz
      exact⟨.mk k m s b [],.empty k m s b (in64_of w0) (in64_of w1) ls a cap hm⟩
     ·have hcell:∀i j,i<len→j<5→∃u,(q i).1[j]?=some u∧W.cell? (a.add (i*5+j))=some u:=fun i j hi2 hj=>by
       obtain⟨h1,_,h3⟩:=hq i hi2
       have h4:=h3 j hj
       rw[List.getElem?_eq_getElem (by omega)]at h4
       exact⟨_,List.getElem?_eq_getElem (by omega),h4⟩
      obtain⟨u0,_,hu0⟩:=hcell 0 0 (by omega) (by omega)
      obtain⟨g,o,spot⟩:=a
      have hsp:spot=none:=by simpa [Addr.add]using World.cell?_spot hu0
      subst hsp
      have hgl:g<W.heap.size:=by
       rw[hadd]at hu0
       exact World.block_lt_of_cell? W _ hu0
      refine⟨.mk k m s b ((List.range len).map fun i=>(q i).2),.list k m s b (in64_of w0) (in64_of w1) ls g o len cap _ (fun i=>(q i).1.toArray) (by simp) trivial hgl hl hm (fun j y hy i u hui=>?_) (fun j y hy=>?_)⟩
      ·have hj:j<len:=by simpa using (List.getElem?_eq_some_iff.1 hy).1
       obtain⟨h1,_,_⟩:=hq j hj
       have hi5:i<5:=by
        have:=(Array.getElem?_eq_some_iff.1 hui).1
        simp at this;omega
       obtain⟨u',h2,h3⟩:=hcell j i hj hi5
       rw[hadd]at h3
       rw[Nat.add_assoc,h3,←h2]
       simpa using hui
      ·have hj:j<len:=by simpa using (List.getElem?_eq_some_iff.1 hy).1
       obtain⟨_,h2,_⟩:=hq j hj
       have e:y=(q j).2:=by simp[hj]at hy;exact hy.symm
       rw[e]
       exact h2
end Go.Proofs.YtlogjpmdfimgdaaGreatDoor

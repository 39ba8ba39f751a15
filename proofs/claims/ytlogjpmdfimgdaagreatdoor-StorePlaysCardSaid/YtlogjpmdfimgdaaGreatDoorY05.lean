/- Rows of changes, and of the law's acts, that came in, opened. No condition. -/
import Derived.Test.YtlogjpmdfimgdaaGreatDoorX08
import Derived.Test.YtlogjpmdfimgdaaGreatDoorX18
import Derived.SizedLaws
namespace Go.Proofs.YtlogjpmdfimgdaaGreatDoor
open Go Go.RowKit Go.Own Go.ChangeShapes Go.WideShapes Go.Deep
instance acInhabited:Inhabited Ac:=⟨⟨[],false,0,0,0⟩⟩
theorem cellsO9:Tryz.prog.cellsOf 9=1:=by kernel_rfl
theorem cellsO4:Tryz.prog.cellsOf 4=1:=by kernel_rfl
theorem cellsO3:Tryz.prog.cellsOf 3=1:=by kernel_rfl
theorem cellsO39:Tryz.prog.cellsOf 39=1:=by kernel_rfl
theorem cellsO38:Tryz.prog.cellsOf 38=1:=by kernel_rfl
theorem cellsO41:Tryz.prog.cellsOf 41=3:=by kernel_rfl
theorem cellsO61:Tryz.prog.cellsOf 61=7:=by kernel_rfl
theorem cellsO43:Tryz.prog.cellsOf 43=5:=by kernel_rfl
theorem bytesO61:Tryz.prog.bytesOf 61=88:=by kernel_rfl
theorem bytesO43:Tryz.prog.bytesOf 43=56:=by kernel_rfl
theorem weightsAll_in{H:Type}{P:Program}{e:TypeId}:∀ {l:List (DataW H)} {d:DataW H},d∈l→∀n∈d.weights P e,n∈DataW.weightsAll P e l
 |d0 :: r,d,hd,n,hn=>by
  simp only[DataW.weightsAll,List.mem_append]
  rcases List.mem_cons.1 hd with rfl | hd
  ·exact .inl hn
  ·exact .inr (weightsAll_in hd n hn)
set_option maxRecDepth 100000 in
theorem fields61:∃f0 f1 f2,Tryz.prog.underlying 61=some (.struct #[f0,f1,f2])∧(f0.type=9∧f0.offset=0)∧(f1.type=59∧f1.offset=1)∧(f2.type=4∧f2.offset=6) :=
 ⟨_,_,_,Tryz.underlying61,⟨rfl,rfl⟩,⟨rfl,rfl⟩,⟨rfl,rfl⟩⟩
set_option maxRecDepth 100000 in
theorem fields43:∃f0 f1 f2,Tryz.prog.underlying 43=some (.struct #[f0,f1,f2])∧(f0.type=38∧f0.offset=0)∧(f1.type=4∧f1.offset=1)∧(f2.type=41∧f2.offset=2) :=
 ⟨_,_,_,Tryz.underlying43,⟨rfl,rfl⟩,⟨rfl,rfl⟩,⟨rfl,rfl⟩⟩
set_option maxRecDepth 100000 in
theorem fields41:∃f0 f1 f2,Tryz.prog.underlying 41=some (.struct #[f0,f1,f2])∧(f0.type=3∧f0.offset=0)∧(f1.type=39∧f1.offset=1)∧(f2.type=3∧f2.offset=2) :=
 ⟨_,_,_,Tryz.underlying41,⟨rfl,rfl⟩,⟨rfl,rfl⟩,⟨rfl,rfl⟩⟩
section
variable{H:Type}{enc:TypeId×Value→H}{W:World}{base:Nat}{spare:Nat→Bool}{held:Bool}{fuel:Nat}
set_option maxRecDepth 100000 in
theorem open_change{cs:List Value}{y:DataW H×List MemPlace}(h:DataW.trod enc Tryz.prog W base spare held fuel 61 cs=some y)(hw:∀m∈y.1.weights Tryz.prog 61,m≤reachBytes) :
  ∃(s:ByteArray) (v:V) (b:Bool) (c0 c1 c2 c3 c4:Value),cs=[.string s,c0,c1,c2,c3,c4,.bool b]∧s.size≤reachBytes∧Holds W (.agg #[c0,c1,c2,c3,c4]) v:=by
 obtain⟨f0,f1,f2,hu,⟨t0,o0⟩,⟨t1,o1⟩,⟨t2,o2⟩⟩:=fields61
 obtain⟨xs,n,hfn,hx,hlen,hxl,hg⟩:=DataW.trod_struct hu h
 rw[cellsO61]at hlen
 match cs,hlen with
 | [c0,c1,c2,c3,c4,c5,c6],_ =>
  match xs,hxl with
  | [y0,y1,y2],_ =>
   have g0:DataW.trod enc Tryz.prog W base spare held n 9 [c0]=some y0:=by simpa [t0,o0,cellsO9]using hg 0 f0 rfl
   have g1:DataW.trod enc Tryz.prog W base spare held n 59 [c1,c2,c3,c4,c5]=some y1:=by simpa [t1,o1,cells59]using hg 1 f1 rfl
   have g2:DataW.trod enc Tryz.prog W base spare held n 4 [c6]=some y2:=by simpa [t2,o2,cellsO4]using hg 2 f2 rfl
   have hwe:DataW.weights Tryz.prog 61 y.1=DataW.weightsEach Tryz.prog [9,59,4] [y0.1,y1.1,y2.1]:=by
    rw[hx]
    simp only[DataW.weights,hu,List.map_cons,List.map_nil,t0,t1,t2]
   rw[hwe]at hw
   have w0:∀m∈y0.1.weights Tryz.prog 9,m≤reachBytes:=fun m hm=>hw m (DataW.weights_mem_each (j:=0) (t:=9) rfl rfl m hm)
   obtain⟨s,e0,hy0,_⟩:=DataW.trod_string Tryz.underlying9 g0
   obtain⟨b,e2,_⟩:=DataW.trod_bool Tryz.underlying4 g2
   obtain⟨v,hv⟩:=open_val n _ _ g1
   simp only[List.cons.injEq,and_true]at e0 e2
   subst e0 e2
   have hs:s.size≤reachBytes:=by
    have:=w0 s.data.toList.length (by rw[hy0];simp[DataW.weights])
    simpa using this
   exact⟨s,v,b,c1,c2,c3,c4,c5,rfl,hs,hv⟩
set_option maxRecDepth 100000 in
theorem open_changes{sv:Value}{x:DataW H×List MemPlace}(h:DataW.trod enc Tryz.prog W base spare held fuel 38 [sv]=some x)(hw:∀m∈x.1.weights Tryz.prog 38,m≤reachBytes) :
  ∃l,InCh W sv l∧l.length≤140737488355328∧∀x∈l,x.1.size≤140737488355328:=by
 rcases DataW.trod_slice Tryz.underlying38 h with⟨e4,_⟩ | ⟨a,len,cap,elems,rest,n',hn',e4,hxe,hb,hl,hm,hel,hi,_,_⟩
 ·simp only[List.cons.injEq,and_true]at e4
  subst e4
  exact⟨[],⟨none,0,rfl,Nat.le_refl _,fun j x hj=>by simp at hj⟩,by simp,fun x hx=>by simp at hx⟩
 ·simp only[List.cons.injEq,and_true]at e4
  subst e4
  have hlen:len≤140737488355328:=by
   rw[hxe]at hw
   simp only[DataW.weights,Tryz.underlying38]at hw
   have h1:=hw _ List.mem_cons_self
   rw[bytesO61]at h1
   simp only[List.length_map]at h1
   unfold reachBytes at h1
   omega
  have each:∀i,i<len→∃q:List Value×(ByteArray×V×Bool),q.2.1.size≤reachBytes∧(∃c0 c1 c2 c3 c4,q.1=[.string q.2.1,c0,c1,c2,c3,c4,.bool q.2.2.2]∧Holds W (.agg #[c0,c1,c2,c3,c4]) q.2.2.1)∧∀j,j<7→W.cell? (a.add (i*7+j))=q.1[j]?:=fun i hil=>by
   have h1:=hi i hil
   have hie:elems[i]?=some (elems[i]'(by omega)):=List.getElem?_eq_getElem (by omega)
   rw[hie,cellsO61]at h1
   obtain⟨cs',hc,ht⟩:=Option.bind_eq_some_iff.1 h1
   obtain⟨_,hcl,hat⟩:=World.cells?_some hc
   have hwi:∀m∈(elems[i]'(by omega)).1.weights Tryz.prog 61,m≤reachBytes:=fun m hm=>hw m (by
    rw[hxe]
    simp only[DataW.weights,Tryz.underlying38]
    refine List.mem_cons_of_mem _ (List.mem_append.2 (.inl ?_))
    exact weightsAll_in (List.mem_map.2 ⟨_,List.getElem_mem _,rfl⟩) m hm)
   obtain⟨s,v,b,c0,c1,c2,c3,c4,e,hs,hv⟩:=open_change ht hwi
   exact⟨(cs',(s,v,b)),hs,⟨c0,c1,c2,c3,c4,e,hv⟩,fun j hj=>by rw[←Go.Deep.add_add];exact hat j hj⟩
  obtain⟨q,hq⟩:=choose_lt each
  refine⟨(List.range len).map fun i=>(q i).2,⟨some a,cap,by simp,by simpa using hl,fun j x hx=>?_⟩,by simpa using hlen,fun x hx=>?_⟩
  ·have hj:j<len:=by simpa using (List.getElem?_eq_some_iff.1 hx).1
   obtain⟨_,⟨c0,c1,c2,c3,c4,e,hv⟩,hc⟩:=hq j hj
   obtain rfl:x=(q j).2:=by simp[hj]at hx;exact hx.symm
   rw[e]at hc
   obtain⟨g,o,spot⟩:=a
   have h0:=hc 0 (by omega)
   simp only[List.getElem?_cons_zero]at h0
   have hsp:spot=none:=by
    obtain⟨_,⟨e0,e1,e2,e3,e4,e',_⟩,hc0⟩:=hq 0 (by omega)
    rw[e']at hc0
    have h00:=hc0 0 (by omega)
    simp only[List.getElem?_cons_zero]at h00
    simpa [Addr.add]using World.cell?_spot h00
   subst hsp
   have hgl:g<W.heap.size:=by
    rw[hadd]at h0
    exact World.block_lt_of_cell? W _ h0
   have hk:∀k (u:Value),k<7→[Value.string (q j).2.1,c0,c1,c2,c3,c4,.bool (q j).2.2.2][k]?=some u→W.cell? ⟨g,o+j*7+k,none⟩=some u:=fun k u hk he=>by
    have:=hc k hk
    rw[hadd,he,←Nat.add_assoc]at this
    exact this
   exact⟨g,o,c0,c1,c2,c3,c4,rfl,hgl,hk 0 _ (by omega) rfl,hk 1 _ (by omega) rfl,hk 2 _ (by omega) rfl,hk 3 _ (by omega) rfl,hk 4 _ (by omega) rfl,hk 5 _ (by omega) rfl,hk 6 _ (by omega) rfl,hv⟩
  ·obtain⟨j,hj,rfl⟩:=List.mem_map.1 hx
   have:=(hq j (List.mem_range.1 hj)).1
   unfold reachBytes at this
   show (q j).2.1.size≤_
   omega
set_option maxRecDepth 100000 in
theorem open_act{cs:List Value}{y:DataW H×List MemPlace}(h:DataW.trod enc Tryz.prog W base spare held fuel 43 cs=some y)(hw:∀m∈y.1.weights Tryz.prog 43,m≤reachBytes) :
  ∃(x:Ac) (lv:Value),cs=[lv,.bool x.cp,.int .i64 x.k1,.int .u64 x.k2,.int .i64 x.k3]∧InCh W lv x.l∧x.l.length≤140737488355328∧∀y∈x.l,y.1.size≤140737488355328:=by
 obtain⟨f0,f1,f2,hu,⟨t0,o0⟩,⟨t1,o1⟩,⟨t2,o2⟩⟩:=fields43
 obtain⟨xs,n,hfn,hx,hlen,hxl,hg⟩:=DataW.trod_struct hu h
 rw[cellsO43]at hlen
 match cs,hlen with
 | [c0,c1,c2,c3,c4],_ =>
  match xs,hxl with
  | [y0,y1,y2],_ =>
   have g0:DataW.trod enc Tryz.prog W base spare held n 38 [c0]=some y0:=by simpa [t0,o0,cellsO38]using hg 0 f0 rfl
   have g1:DataW.trod enc Tryz.prog W base spare held n 4 [c1]=some y1:=by simpa [t1,o1,cellsO4]using hg 1 f1 rfl
   have g2:DataW.trod enc Tryz.prog W base spare held n 41 [c2,c3,c4]=some y2:=by simpa [t2,o2,cellsO41]using hg 2 f2 rfl
   have hwe:DataW.weights Tryz.prog 43 y.1=DataW.weightsEach Tryz.prog [38,4,41] [y0.1,y1.1,y2.1]:=by
    rw[hx]
    simp only[DataW.weights,hu,List.map_cons,List.map_nil,t0,t1,t2]
   rw[hwe]at hw
   have w0:∀m∈y0.1.weights Tryz.prog 38,m≤reachBytes:=fun m hm=>hw m (DataW.weights_mem_each (j:=0) (t:=38) rfl rfl m hm)
   obtain⟨l,hl1,hl2,hl3⟩:=open_changes g0 w0
   obtain⟨b,e1,_⟩:=DataW.trod_bool Tryz.underlying4 g1
   simp only[List.cons.injEq,and_true]at e1
   subst e1
   obtain⟨f3,f4,f5,hu2,⟨t3,o3⟩,⟨t4,o4⟩,⟨t5,o5⟩⟩:=fields41
   obtain⟨xs2,n2,_,_,_,hxl2,hg2⟩:=DataW.trod_struct hu2 g2
   match xs2,hxl2 with
   | [y3,y4,y5],_ =>
    have g3:DataW.trod enc Tryz.prog W base spare held n2 3 [c2]=some y3:=by simpa [t3,o3,cellsO3]using hg2 0 f3 rfl
    have g4:DataW.trod enc Tryz.prog W base spare held n2 39 [c3]=some y4:=by simpa [t4,o4,cellsO39]using hg2 1 f4 rfl
    have g5:DataW.trod enc Tryz.prog W base spare held n2 3 [c4]=some y5:=by simpa [t5,o5,cellsO3]using hg2 2 f5 rfl
    obtain⟨k1,e3,_,_⟩:=DataW.trod_int Tryz.underlying3 g3
    obtain⟨k2,e4,_,_⟩:=DataW.trod_int Tryz.underlying39 g4
    obtain⟨k3,e5,_,_⟩:=DataW.trod_int Tryz.underlying3 g5
    simp only[List.cons.injEq,and_true]at e3 e4 e5
    subst e3 e4 e5
    exact⟨⟨l,b,k1,k2,k3⟩,c0,rfl,hl1,hl2,hl3⟩
set_option maxRecDepth 100000 in
theorem open_acts{sv:Value}{x:DataW H×List MemPlace}(h:DataW.trod enc Tryz.prog W base spare held fuel 22 [sv]=some x)(hw:∀m∈x.1.weights Tryz.prog 22,m≤reachBytes) :
  ∃L,InAct W sv L∧L.length≤2513169434900∧∀a∈L,a.l.length≤140737488355328∧∀x∈a.l,x.1.size≤140737488355328:=by
 rcases DataW.trod_slice Tryz.underlying22 h with⟨e4,_⟩ | ⟨a,len,cap,elems,rest,n',hn',e4,hxe,hb,hl,hm,hel,hi,_,_⟩
 ·simp only[List.cons.injEq,and_true]at e4
  subst e4
  exact⟨[],⟨none,0,rfl,Nat.le_refl _,fun j x hj=>by simp at hj⟩,by simp,fun x hx=>by simp at hx⟩
 ·simp only[List.cons.injEq,and_true]at e4
  subst e4
  have hlen:len≤2513169434900:=by
   rw[hxe]at hw
   simp only[DataW.weights,Tryz.underlying22]at hw
   have h1:=hw _ List.mem_cons_self
   rw[bytesO43]at h1
   simp only[List.length_map]at h1
   unfold reachBytes at h1
   omega
  have each:∀i,i<len→∃q:List Value×Ac,(∃lv,q.1=[lv,.bool q.2.cp,.int .i64 q.2.k1,.int .u64 q.2.k2,.int .i64 q.2.k3]∧InCh W lv q.2.l)∧(q.2.l.length≤140737488355328∧∀y∈q.2.l,y.1.size≤140737488355328)∧∀j,j<5→W.cell? (a.add (i*5+j))=q.1[j]?:=fun i hil=>by
   have h1:=hi i hil
   have hie:elems[i]?=some (elems[i]'(by omega)):=List.getElem?_eq_getElem (by omega)
   rw[hie,cellsO43]at h1
   obtain⟨cs',hc,ht⟩:=Option.bind_eq_some_iff.1 h1
   obtain⟨_,hcl,hat⟩:=World.cells?_some hc
   have hwi:∀m∈(elems[i]'(by omega)).1.weights Tryz.prog 43,m≤reachBytes:=fun m hm=>hw m (by
    rw[hxe]
    simp only[DataW.weights,Tryz.underlying22]
    refine List.mem_cons_of_mem _ (List.mem_append.2 (.inl ?_))
    exact weightsAll_in (List.mem_map.2 ⟨_,List.getElem_mem _,rfl⟩) m hm)
   obtain⟨z,lv,e,hin,hz⟩:=open_act ht hwi
   exact⟨(cs',z),⟨lv,e,hin⟩,hz,fun j hj=>by rw[←Go.Deep.add_add];exact hat j hj⟩
  obtain⟨q,hq⟩:=choose_lt each
  refine⟨(List.range len).map fun i=>(q i).2,⟨some a,cap,by simp,by simpa using hl,fun j x hx=>?_⟩,by simpa using hlen,fun x hx=>?_⟩
  ·have hj:j<len:=by simpa using (List.getElem?_eq_some_iff.1 hx).1
   obtain⟨⟨lv,e,hin⟩,_,hc⟩:=hq j hj
   obtain rfl:x=(q j).2:=by simp[hj]at hx;exact hx.symm
   rw[e]at hc
   obtain⟨g,o,spot⟩:=a
   have h0:=hc 0 (by omega)
   simp only[List.getElem?_cons_zero]at h0
   have hsp:spot=none:=by
    obtain⟨⟨lv0,e',_⟩,_,hc0⟩:=hq 0 (by omega)
    rw[e']at hc0
    have h00:=hc0 0 (by omega)
    simp only[List.getElem?_cons_zero]at h00
    simpa [Addr.add]using World.cell?_spot h00
   subst hsp
   have hgl:g<W.heap.size:=by
    rw[hadd]at h0
    exact World.block_lt_of_cell? W _ h0
   have hk:∀k (u:Value),k<5→[lv,Value.bool (q j).2.cp,.int .i64 (q j).2.k1,.int .u64 (q j).2.k2,.int .i64 (q j).2.k3][k]?=some u→W.cell? ⟨g,o+j*5+k,none⟩=some u:=fun k u hk he=>by
    have:=hc k hk
    rw[hadd,he,←Nat.add_assoc]at this
    exact this
   exact⟨g,o,lv,rfl,hgl,hk 0 _ (by omega) rfl,hk 1 _ (by omega) rfl,hk 2 _ (by omega) rfl,hk 3 _ (by omega) rfl,hk 4 _ (by omega) rfl,hin⟩
  ·obtain⟨j,hj,rfl⟩:=List.mem_map.1 hx
   exact(hq j (List.mem_range.1 hj)).2.1
end
end Go.Proofs.YtlogjpmdfimgdaaGreatDoor

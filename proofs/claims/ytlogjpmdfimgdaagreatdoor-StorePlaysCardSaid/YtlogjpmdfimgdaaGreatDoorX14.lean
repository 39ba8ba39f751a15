/- The document's journal: plainly; in memory; takes, Room, New: by contract. No condition but the sizes. | The document's Append of its journal (f49), by contract. No condition but the sizes. -/
import Derived.Test.YtlogjpmdfimgdaaGreatDoorX11
import Derived.Test.YtlogjpmdfimgdaaGreatDoorX12
import Derived.Test.YtlogjpmdfimgdaaGreatDoorX13
import Derived.Deep.AppendSrc
namespace Go.Proofs.YtlogjpmdfimgdaaGreatDoor
open Go Go.RowKit Go.Own Go.Own.Fr Go.Maps Go.WideMaps
def dsecs(n:Nat):Nat:=(50+n+63)/64
structure Md where
 half:Nat
 taken:Nat
 gen:Nat
structure Md.ok(m:Md):Prop where
 tk:m.taken≤m.half
 hf:m.half≤100000
 gn:m.gen≤1000000000
def Md.room(m:Md):Int:=min 65535 (((m.half:Int)-m.taken)*64-50)
def Md.app(m:Md)(n:Nat):Md×Nat:=if m.room<(n:Int)then (m,6)else (⟨m.half,m.taken+dsecs n,max m.gen 1⟩,0)
def mgo(half:Nat):Nat→List Nat→Option Nat
 |n,[]=>some n
 |n,t :: l=>if 65535<t∨half<n+dsecs t then none else mgo half (n+dsecs t) l
def dsome(l:List Nat):List Nat:=if l=[]then [0]else l
def Md.anew(m:Md)(l:List Nat):Md×Nat:=match mgo m.half 0 (dsome l)with | none=>(m,6) | some n=>(⟨m.half,n,m.gen+1⟩,0)
theorem Md.app_taken{m:Md}(h:m.ok){n:Nat}(hr:¬m.room<(n:Int)):m.taken+dsecs n≤m.half:=by
 unfold Md.room at hr
 unfold dsecs
 have:=h.tk
 omega
def SB(S:Nat→Prop)(w:World)(q:Option Addr):Prop:=∀a,q=some a→S a.block∧a.block<w.heap.size
theorem SB.none(S:Nat→Prop)(w:World):SB S w none:=fun _ h=>by cases h
theorem SB.up{S:Nat→Prop}{w w':World}{q:Option Addr}(h:SB S w q)(hz:w.heap.size≤w'.heap.size):SB S w' q:=fun a ha=>⟨(h a ha).1,Nat.lt_of_lt_of_le (h a ha).2 hz⟩
theorem OwnS.sb{S:Nat→Prop}{w:World}{B n c:Nat}{p:Option Addr}{l:List ByteArray}(h:OwnS w B (.slice p n c) l)(hS:∀k,B≤k→S k):SB S w p:=by
 obtain⟨_,h2⟩:=h
 rcases h2 with⟨e,_⟩ | ⟨g,cap,cur,e,hb,hg,_⟩
 ·simp only[Value.slice.injEq]at e
  rw[e.1];exact SB.none S w
 ·simp only[Value.slice.injEq]at e
  intro a ha
  rw[e.1]at ha
  rw[←Option.some.inj ha]
  exact⟨hS g hb,(Array.getElem?_eq_some_iff.1 hg).1⟩
def DJ(S:Nat→Prop)(w:World)(v:Value)(m:Md):Prop:=∃q x c ts,v=.agg #[.int .i64 (m.half:Int),.slice q x c,.int .i64 (m.taken:Int),.int .i64 (m.gen:Int)]∧StrRow w (.slice q x c) ts∧ts.length≤m.taken∧SB S w q
theorem StrRow.src{W:World}{p:Option Addr}{n cap:Nat}{ts:List ByteArray}(h:StrRow W (.slice p n cap) ts)(i:TypeInfo)(hi:i.size=1):Src Tryz.prog i.size 29 (.slice p n cap) n (sb ts) W:=by
 obtain⟨p',cap',e,hcap,hc⟩:=h
 simp only[Value.slice.injEq]at e
 obtain⟨rfl,hn,rfl⟩:=e
 subst hn
 cases p with
 |none =>
  have hL:ts=[]:=by
   cases ts with
   |nil=>rfl
   |cons x L=>obtain⟨b,o,e,_⟩:=hc 0 x rfl;cases e
  subst hL
  exact Src.ofNil W Tryz.underlying29 cap
 |some a =>
  refine Src.ofSlice W Tryz.underlying29 a ts.length cap (sb ts) (by rw[hi,Nat.mul_one];simp[sb]) (fun j u hu=>?_) (fun u hu=>?_)
  ·unfold sb at hu
   rw[List.getElem?_map]at hu
   obtain⟨s,hs,rfl⟩:=Option.map_eq_some_iff.1 hu
   obtain⟨b,o,e2,_,h⟩:=hc j s hs
   obtain rfl:=Option.some.inj e2
   rw[hadd];exact h
  ·unfold sb at hu
   obtain⟨s,_,rfl⟩:=List.mem_map.1 hu
   rfl
theorem firstS(W:World)(g k:Nat):(Builtin.firstCells k 0 (.slice (some ⟨g,0,none⟩) 0 0)).run Tryz.prog W=.ok (([]:List Value).toArray) W:=by
 simp[Builtin.firstCells,loadCells,loadCellsFrom]
theorem appS_fresh{W:World}{B g:Nat}(hg:B≤g)(hb:W.heap[g]?=some (.cells #[] 9 (0,0))){p:Option Addr}{n cap:Nat}{ts:List ByteArray}(hP:StrRow W (.slice p n cap) ts)(hn:n≤1000000)(hB:B≤W.heap.size)(ty:TypeId) :
  ∃v' W',(Builtin.append_ #[29,29] ty #[.slice (some ⟨g,0,none⟩) 0 0,.slice p n cap]).run Tryz.prog W=.ok v' W'∧OwnS W' B v' ts∧Below W.heap.size W W':=by
 obtain⟨i,hi,hz,h2,h32⟩:=info_parts info9
 have hs:=hP.src i h2
 have hnl:ts.length=n:=by obtain⟨_,_,e,_⟩:=hP;simp only[Value.slice.injEq]at e;exact e.2.1.symm
 by_cases h0:n=0
 ·subst h0
  have hL:ts=[]:=List.eq_nil_of_length_eq_zero (by omega)
  subst hL
  refine⟨.slice (some ⟨g,0,none⟩) 0 0,W,?_,⟨rfl,Or.inr ⟨g,0,#[],rfl,hg,hb,Nat.le_refl _,Nat.zero_le _,rfl,rfl⟩⟩,Below.refl _ _⟩
  have:=run_append_room_src (P:=Tryz.prog) W 29 29 ty 9 i Tryz.underlying29 hi g 0 0 0 (.slice p 0 cap) 0 [] hs (by omega) (fun j hj=>by simp at hj) (fun j hj=>by simp at hj)
  simpa [World.setCells]using this
 ·have hr:=run_append_grow_src (P:=Tryz.prog) W 29 29 ty 9 i _ Tryz.underlying29 hi hz (some ⟨g,0,none⟩) 0 0 [] (firstS _ _ _) (.slice p n cap) n (sb ts) hs (by omega) (by omega) (growslice_fits (by omega) (by rw[h32];omega))
  have hge:=grownCap_ge W (0+n) 0 9
  have hle:=grownCap_le_maxLen W (0+n) 0 9 (by unfold maxLen;omega)
  rw[Nat.zero_add]at hr hge hle
  refine⟨_,_,hr,⟨by simp[sb],Or.inr ⟨W.heap.size,grownCap W n 0 9,_,by rw[hnl],hB,heap_alloc_new W.drew _,?_,hle,?_,?_⟩⟩,?_⟩
  ·omega
  ·simp[size_zeroCells,hnl,Value.cells,sb];omega
  ·simp only[List.nil_append,Array.toList_append]
   have hl:ts.length*1=(sb ts).length:=by simp[sb]
   rw[hl]
   exact List.take_left
  ·exact(Below.refl W.heap.size W).drew.alloc (by simp) _
theorem appS_own{W:World}{B:Nat}{v:Value}{ts:List ByteArray}(hown:OwnS W B v ts){b:Nat}{s:ByteArray}(hb:W.heap[b]?=some (.cells #[.string s] 9 (0,0)))(hn:ts.length≤1000000)(hB:B≤W.heap.size)(ty:TypeId) :
  ∃v' W',(Builtin.append_ #[29,29] ty #[v,.slice (some ⟨b,0,none⟩) 1 1]).run Tryz.prog W=.ok v' W'∧OwnS W' B v' (ts++[s])∧Below B W W':=by
 obtain⟨i,hi,hz,h2,h32⟩:=info_parts info9
 obtain⟨v',W',hr,hown',hg,_⟩:=run_append_own (P:=Tryz.prog) W B 29 ty 9 i _ 1 16 Tryz.underlying29 hi hz h2 h32 rfl (by decide) v ts.length (sb ts) hown ⟨b,0,none⟩ 1 1 [.string s] rfl (fun j u hj=>by rw[hadd,Nat.zero_add,cell_at hb];simpa using hj) (fun u hu=>by rw[List.mem_singleton.1 hu];rfl) (by unfold maxLen;omega) (by omega) hB
 refine⟨v',W',hr,?_,(Below.refl B W).grown hg hB (fun k hk=>(hown.lt k hk).1)⟩
 unfold OwnS
 rw[List.length_append,show sb (ts++[s])=sb ts++[.string s] by simp[sb]]
 exact hown'
theorem i31:(Tryz.prog.info? 31).map (·.size)=some 4:=by kernel_rfl
theorem i34:(Tryz.prog.info? 34).map (·.size)=some 5:=by kernel_rfl
theorem wpList_put{ops:Array Oper}{rest:List Oper}{a:Act}{Q:Exit→Act→World→Prop}{w:World}{x y:Nat}{ty:TypeId}{pos:String}{after:Array Edge}(T:TypeId)(g:Nat)(cs os:Array Value)
  (hx:a.eval (.tmp x)=.pointer (some ⟨g,0,none⟩)) (hy:a.eval (.tmp y)=.agg cs) (hg:w.heap[g]?=some (.cells os T (0,0))) (hi:(Tryz.prog.info? T).map (·.size)=some cs.size) (hs:os.size=cs.size) (h1:cs.all (·.oneCell')=true)
  (h:∀w',w'.heap[g]?=some (.cells cs T (0,0))→w.grownBy w' (some g)→wpList Tryz.prog ops Q rest a w') :
  wpList Tryz.prog ops Q ({ dst:=none,op:=.store T (.tmp x) (.tmp y),type:=ty,pos:=pos,after:=after,guard:=none } :: rest) a w :=
 wpList_store_row rfl T (.tmp x) (.tmp y) rfl g cs hx hy T os hg hi hs h1
  (h _ (setRow_heap w g _ _ T (0,0) hg) ⟨rfl,rfl,rfl,by simp,fun k _ hne=>setRow_other w g k _ (fun e=>hne (by rw[e]))⟩)
theorem below_put{w w1 w2:World}{B g:Nat}(h:Below B w w1)(hg:w1.grownBy w2 (some g))(hB:B≤w1.heap.size)(hBg:B≤g):Below B w w2 :=
 h.grown hg hB (fun k hk=>by have:=Option.some.inj hk;omega)
theorem res2{fn:Func}{p u:Tmp}{ty:TypeId}(h:fn.results=#[.cell p ty,.tmp u])(tmps:Array Value)(P:Program)(w:World)(r:Nat)(x y:Value)(hp:tmps[p]?=some (.pointer (some ⟨r,0,none⟩)))(hu:tmps[u]?=some y)(hx:(loadVar ty ⟨r,0,none⟩).run P w=.ok x w) :
  (results fn tmps).run P w=.ok (.tuple #[x,y]) w:=by
 simp[results,h,asAddr,hp,hu,hx]
theorem ld_cells{P:Program}{T:TypeId}(W:World){b:Nat}(cs:List Value)(ha:(isAgg T).run P W=.ok true W)(hz:(sizeOf T).run P W=.ok cs.length W)(h:W.heap[b]?=some (.cells cs.toArray T (0,0))) :
  (Instr.loadAt T (.pointer (some ⟨b,0,none⟩))).run P W=.ok (.agg cs.toArray) W∧(loadVar T ⟨b,0,none⟩).run P W=.ok (.agg cs.toArray) W:=by
 have hl:=run_loadCells_list (P:=P) W ⟨b,0,none⟩ cs (fun j u hu=>by
  rw[hadd,Nat.zero_add,cell_at h]
  simpa using hu)
 constructor
 ·simp[Instr.loadAt,Instr.sureAddr,loadVar,ha,hz,hl]
 ·simp[loadVar,ha,hz,hl]
theorem ld31{W:World}{b:Nat}{x y z u:Value}(h:W.heap[b]?=some (.cells #[x,y,z,u] 31 (0,0))):(loadVar 31 ⟨b,0,none⟩).run Tryz.prog W=.ok (.agg #[x,y,z,u]) W :=
 (ld_cells (P:=Tryz.prog) (T:=31) W [x,y,z,u] (by kernel_rfl) (by kernel_rfl) h).2
theorem ld34{W:World}{b:Nat}{x y z u v:Value}(h:W.heap[b]?=some (.cells #[x,y,z,u,v] 34 (0,0))):(loadVar 34 ⟨b,0,none⟩).run Tryz.prog W=.ok (.agg #[x,y,z,u,v]) W :=
 (ld_cells (P:=Tryz.prog) (T:=34) W [x,y,z,u,v] (by kernel_rfl) (by kernel_rfl) h).2
set_option maxRecDepth 100000 in
theorem dtakes_any(s:ByteArray)(hs:s.size≤140737488355328)(w:World):Calls Tryz.prog 71 #[.string s] w fun e w'=>e=.returned (.int .i64 ((dsecs s.size:Nat):Int))∧w'=w:=by
 obtain⟨n,hn⟩:∃n,s.size=n:=⟨_,rfl⟩
 rw[hn]at hs ⊢
 obtain⟨S,hS⟩:∃S,dsecs n=S:=⟨_,rfl⟩
 have hq:((50+(n:Int)+63).tdiv 64)=(S:Int):=by
  have:(50+(n:Int)+63).tdiv 64=(((50+n+63)/64:Nat):Int):=rfl
  rw[this,←hS];rfl
 have hSb:S≤140737488355328:=by rw[←hS];unfold dsecs;omega
 have hSw:wrap64 (S:Int)=(S:Int):=IntWalk.wrap64_in _ (by omega)
 rw[hS]
 clear hS
 go_enter Tryz.func71,Tryz.ntmps71
 go_wp2
 go_ret
 exact⟨rfl,rfl⟩
def RoomQ(m:Md)(w:World)(e:Ending)(w':World):Prop:=e=.returned (.int .i64 m.room)∧Below w.heap.size w w'
set_option maxRecDepth 100000 in
theorem droom_any(m:Md)(q:Option Addr)(x c:Nat)(hm:m.ok)(w:World):Calls Tryz.prog 73 #[.agg #[.int .i64 (m.half:Int),.slice q x c,.int .i64 (m.taken:Int),.int .i64 (m.gen:Int)]] w (RoomQ m w):=by
 obtain⟨h,tk,g⟩:=m
 obtain⟨h1,h2,_⟩:=hm
 simp only at h1 h2 ⊢
 unfold RoomQ Md.room
 simp only
 obtain⟨r,hr⟩:∃r,((h:Int)-tk)*64-50=r:=⟨_,rfl⟩
 have hr2:((h:Int)-tk)*64=r+50:=by omega
 obtain⟨z,hz⟩:∃z,min 65535 (((h:Int)-tk)*64-50)=z:=⟨_,rfl⟩
 have HB:=Lib.hid (below_new w (.cells #[.int .i64 (h:Int),.slice q x c,.int .i64 (tk:Int),.int .i64 (g:Int)] 31))
 rw[hz]
 rw[hr]at hz
 by_cases hc:65535<r
 ·have HZ:Hid ((65535:Int)=z):=Lib.hid (by omega)
  clear hz
  go_enter Tryz.func73,Tryz.ntmps73
  go_wp2
  go_ret
  exact⟨by rw[←HZ.out];rfl,HB.out⟩
 ·have HZ:Hid (r=z):=Lib.hid (by omega)
  clear hz
  go_enter Tryz.func73,Tryz.ntmps73
  go_wp2
  go_ret
  exact⟨by rw[←HZ.out];simp,HB.out⟩
end Go.Proofs.YtlogjpmdfimgdaaGreatDoor
namespace Go.Proofs.YtlogjpmdfimgdaaGreatDoor
open Go Go.RowKit Go.Own Go.Own.Fr Go.Maps Go.WideMaps
def DAppQ(S:Nat→Prop)(r:Md×Nat)(w:World)(e:Ending)(w':World):Prop:=∃v',e=.returned (.tuple #[v',.int .i64 (r.2:Int)])∧DJ S w' v' r.1∧Below w.heap.size w w'
section
variable{ρ:Operand→Value}{W:World}{dst:Option Tmp}{ty:TypeId}{pos:String}{after:Array Edge}{guard:Option (Nat×Bool)}{x y z u:Operand}
theorem fa31(b:Nat)(W:World):(Instr.fieldAt 31 (.pointer (some ⟨b,0,none⟩)) 0).run Tryz.prog W=.ok (.pointer (some ⟨b,0,none⟩)) W∧(Instr.fieldAt 31 (.pointer (some ⟨b,0,none⟩)) 1).run Tryz.prog W=.ok (.pointer (some ⟨b,1,none⟩)) W∧(Instr.fieldAt 31 (.pointer (some ⟨b,0,none⟩)) 2).run Tryz.prog W=.ok (.pointer (some ⟨b,2,none⟩)) W∧(Instr.fieldAt 31 (.pointer (some ⟨b,0,none⟩)) 3).run Tryz.prog W=.ok (.pointer (some ⟨b,3,none⟩)) W:=by
 refine⟨?_,?_,?_,?_⟩ <;> simp[go_sem]
theorem ld3o{b o:Nat}{s:Int}(h:W.cell? ⟨b,o,none⟩=some (.int .i64 s)):(Instr.loadAt 3 (.pointer (some ⟨b,o,none⟩))).run Tryz.prog W=.ok (.int .i64 s) W:=by
 simp[Instr.loadAt,go_sem,h]
theorem ld29o{b o n c:Nat}{p:Option Addr}(h:W.cell? ⟨b,o,none⟩=some (.slice p n c)):(Instr.loadAt 29 (.pointer (some ⟨b,o,none⟩))).run Tryz.prog W=.ok (.slice p n c) W:=by
 simp[Instr.loadAt,go_sem,h]
theorem exec_bs29z:(execOp ρ { dst,op:=.buildSlice 29 0 #[],type:=ty,pos,after,guard }).run Tryz.prog W=.ok (.value (.slice (some ⟨W.heap.size,0,none⟩) 0 0)) (W.alloc (.cells #[] 9)):=by
 have hb:(Instr.buildSlice 29 0 #[]).run Tryz.prog W=.ok (.slice (some ⟨W.heap.size,0,none⟩) 0 0) (W.alloc (.cells #[] 9)):=by kernel_rfl
 unfold execOp
 simp only[List.map_toArray,List.map_nil,Sem.run_bind,hb,Result.andThen_ok]
 rfl
theorem exec_bs29s{s:ByteArray}(h1:ρ x=.string s):(execOp ρ { dst,op:=.buildSlice 29 1 #[(0,x)],type:=ty,pos,after,guard }).run Tryz.prog W=.ok (.value (.slice (some ⟨W.heap.size,0,none⟩) 1 1)) (W.alloc (.cells #[.string s] 9)):=by
 have hb:(Instr.buildSlice 29 1 #[(0,.string s)]).run Tryz.prog W=.ok (.slice (some ⟨W.heap.size,0,none⟩) 1 1) (W.alloc (.cells #[.string s] 9)):=by kernel_rfl
 unfold execOp
 simp only[List.map_toArray,List.map_cons,List.map_nil,h1,Sem.run_bind,hb,Result.andThen_ok]
 rfl
theorem exec_appS{v u r:Value}{W':World}(h1:ρ x=v)(h2:ρ y=u)(hr:(Builtin.append_ #[29,29] ty #[v,u]).run Tryz.prog W=.ok r W') :
  (execOp ρ { dst,op:=.call { callee:=.builtin .append,args:=#[x,y],argTypes:=#[29,29] },type:=ty,pos,after,guard }).run Tryz.prog W=.ok (.value r) W':=by
 simp[execOp,resolve,invoke,builtin,h1,h2,hr,Result.andThen]
theorem exec_add3{a b:Int}(h1:ρ x=.int .i64 a)(h2:ρ y=.int .i64 b)(hw:IntKind.i64.wrap (a+b)=a+b):(execOp ρ { dst,op:=.binOp .add 3 x y 3,type:=ty,pos,after,guard }).run Tryz.prog W=.ok (.value (.int .i64 (a+b))) W:=by
 simp[execOp,h1,h2,go_sem,hw]
theorem exec_bd31{a b c:Int}{p:Option Addr}{n k:Nat}(h1:ρ x=.int .i64 a)(h2:ρ y=.slice p n k)(h3:ρ z=.int .i64 b)(h4:ρ u=.int .i64 c) :
  (execOp ρ { dst,op:=.build 31 #[(0,x),(1,y),(2,z),(3,u)],type:=ty,pos,after,guard }).run Tryz.prog W=.ok (.value (.agg #[.int .i64 a,.slice p n k,.int .i64 b,.int .i64 c])) W:=by
 simp[execOp,h1,h2,h3,h4,go_sem]
end
def EmpS(base:Nat)(v:Value)(W:World):Prop:=∃b,v=.slice (some ⟨b,0,none⟩) 0 0∧base≤b∧W.heap[b]?=some (.cells #[] 9 (0,0))
def OneS(s:ByteArray)(v:Value)(W:World):Prop:=∃b,v=.slice (some ⟨b,0,none⟩) 1 1∧W.heap[b]?=some (.cells #[.string s] 9 (0,0))
def BldS(base:Nat)(ts:List ByteArray)(a b c:Int)(v:Value)(W:World):Prop:=∃u,v=.agg #[.int .i64 a,u,.int .i64 b,.int .i64 c]∧OwnS W base u ts
theorem EmpS_last(base:Nat):Lasts (EmpS base):=by
 rintro v W W' ⟨b,h1,h2,h3⟩ hB
 exact⟨b,h1,h2,(hB.block b (Array.getElem?_eq_some_iff.1 h3).1).trans h3⟩
theorem OneS_last(s:ByteArray):Lasts (OneS s):=by
 rintro v W W' ⟨b,h1,h2⟩ hB
 exact⟨b,h1,(hB.block b (Array.getElem?_eq_some_iff.1 h2).1).trans h2⟩
theorem OwnS_last(base:Nat)(ts:List ByteArray):Lasts (fun v W=>OwnS W base v ts):=fun _ _ _ h hB=>OwnS.below h hB
theorem BldS_last(base:Nat)(ts:List ByteArray)(a b c:Int):Lasts (BldS base ts a b c):=by
 rintro v W W' ⟨u,h1,h2⟩ hB
 exact⟨u,h1,h2.below hB⟩
theorem OwnS.form{w:World}{B:Nat}{v:Value}{l:List ByteArray}(h:OwnS w B v l):∃p c,v=.slice p l.length c:=by
 obtain⟨_,h2⟩:=h
 rcases h2 with⟨rfl,h0⟩ | ⟨g,cap,cur,rfl,_⟩
 ·exact⟨none,0,by rw[h0]⟩
 ·exact⟨_,_,rfl⟩
def TJ(base:Nat)(q:Option Addr)(x c b0:Nat)(h0 tk sc g':Int)(s:ByteArray)(ts:List ByteArray)(ph:Bool):Nat→Value→World→Prop :=
 TL [eqv (.pointer (some ⟨b0,0,none⟩)),eqv (.int .i64 h0),fun v W=>ph=false→EmpS base v W,eqv (.pointer (some ⟨b0,1,none⟩)),eqv (.slice q x c),fun v W=>ph=false→OwnS W base v ts,eqv (.string s),fun v W=>ph=false→OneS s v W,fun v W=>OwnS W base v (ts++[s]),eqv (.pointer (some ⟨b0,2,none⟩)),eqv (.int .i64 tk),eqv (.string s),eqv (.int .i64 sc),eqv (.int .i64 (tk+sc)),eqv (.int .i64 g'),BldS base (ts++[s]) h0 (tk+sc) g']
theorem imp_last{p:Value→World→Prop}(h:Lasts p)(ph:Bool):Lasts (fun v W=>ph=false→p v W):=fun v W W' hp hB e=>h v W W' (hp e) hB
theorem TJ_last(base:Nat)(q:Option Addr)(x c b0:Nat)(h0 tk sc g':Int)(s:ByteArray)(ts:List ByteArray)(ph:Bool)(i:Nat)(v:Value)(W W':World)(h:TJ base q x c b0 h0 tk sc g' s ts ph i v W)(hB:Below W.heap.size W W'):TJ base q x c b0 h0 tk sc g' s ts ph i v W':=by
 refine TL_last (fun p hp=>?_) i v W W' h hB
 simp only[List.mem_cons,List.not_mem_nil,or_false]at hp
 rcases hp with rfl | rfl | rfl | rfl | rfl | rfl | rfl | rfl | rfl | rfl | rfl | rfl | rfl | rfl | rfl | rfl
 ·exact eqv_last _
 ·exact eqv_last _
 ·exact imp_last (EmpS_last base) ph
 ·exact eqv_last _
 ·exact eqv_last _
 ·exact imp_last (OwnS_last base ts) ph
 ·exact eqv_last _
 ·exact imp_last (OneS_last s) ph
 ·exact OwnS_last base _
 ·exact eqv_last _
 ·exact eqv_last _
 ·exact eqv_last _
 ·exact eqv_last _
 ·exact eqv_last _
 ·exact eqv_last _
 ·exact BldS_last base _ _ _ _
set_option maxRecDepth 100000 in
set_option maxHeartbeats 4000000 in
theorem dapp_any(S:Nat→Prop)(m:Md)(v:Value)(s:ByteArray)(w:World)(hm:m.ok)(hs:s.size≤140737488355328)(h:DJ S w v m)(hS:∀k,w.heap.size≤k→S k):Calls Tryz.prog 49 #[v,.string s] w (DAppQ S (m.app s.size) w):=by
 obtain⟨q,x,c,ts,rfl,hrow,htl,hsb⟩:=h
 have HSB:=Lib.hid hsb
 have HS0:=Lib.hid hS
 have HRM:=Lib.hid (fun W=>droom_any m q x c hm W)
 have HTK:=Lib.hid (fun W=>dtakes_any s hs W)
 have hx:ts.length=x:=by obtain⟨_,_,e,_⟩:=hrow;simp only[Value.slice.injEq]at e;exact e.2.1.symm
 have HX:=Lib.hid hx
 have hxb:x≤100000:=by have:=hm.tk;have:=hm.hf;omega
 have HROW:=Lib.hid hrow
 have HTL:=Lib.hid htl
 have HOK:=Lib.hid hm
 obtain⟨h0,tk,g⟩:=m
 obtain⟨n,hn⟩:∃n,s.size=n:=⟨_,rfl⟩
 have HN:=Lib.hid hn
 rw[hn]at hs HTK ⊢
 obtain⟨rm,hrm⟩:∃r,Md.room ⟨h0,tk,g⟩=r:=⟨_,rfl⟩
 have HRE:=Lib.hid hrm
 have hgb:=hm.gn
 have htb:=hm.tk
 have hhb:=hm.hf
 unfold RoomQ at HRM
 simp only[hrm]at HRM hgb htb hhb ⊢
 have HA1:Hid (((w.alloc (.cells #[.int .i64 (h0:Int),.slice q x c,.int .i64 (tk:Int),.int .i64 (g:Int)] 31)).alloc (.cells #[.int .i64 0,.slice none 0 0,.int .i64 0,.int .i64 0] 31)).heap[w.heap.size]?=some (.cells #[.int .i64 (h0:Int),.slice q x c,.int .i64 (tk:Int),.int .i64 (g:Int)] 31 (0,0))):=Lib.hid (((below_new _ _).block w.heap.size (by simp)).trans (heap_alloc_new w _))
 have HA2:Hid (((w.alloc (.cells #[.int .i64 (h0:Int),.slice q x c,.int .i64 (tk:Int),.int .i64 (g:Int)] 31)).alloc (.cells #[.int .i64 0,.slice none 0 0,.int .i64 0,.int .i64 0] 31)).heap[w.heap.size+1]?=some (.cells #[.int .i64 0,.slice none 0 0,.int .i64 0,.int .i64 0] 31 (0,0))):=Lib.hid (by
  have:=heap_alloc_new (w.alloc (.cells #[.int .i64 (h0:Int),.slice q x c,.int .i64 (tk:Int),.int .i64 (g:Int)] 31)) (.cells #[.int .i64 0,.slice none 0 0,.int .i64 0,.int .i64 0] 31)
  rwa [World.size_alloc]at this)
 have HB0:Hid (Below w.heap.size w ((w.alloc (.cells #[.int .i64 (h0:Int),.slice q x c,.int .i64 (tk:Int),.int .i64 (g:Int)] 31)).alloc (.cells #[.int .i64 0,.slice none 0 0,.int .i64 0,.int .i64 0] 31))):=Lib.hid (((Below.refl _ w).alloc (Nat.le_refl _) _).alloc (by simp) _)
 have J0:=Lib.hid (show ((#[.int .i64 0,.slice none 0 0,.int .i64 0,.int .i64 0]:Array Value)).size=4 from rfl)
 clear hm hx hn hrm hrow htl hsb hS
 go_enter Tryz.func49,Tryz.ntmps49
 go_wp2_with fail
 refine(HRM.out _).mono ?_
 rintro e w1 ⟨rfl,hb1⟩
 have HA1':=Lib.hid ((hb1.block w.heap.size (Array.getElem?_eq_some_iff.1 HA1.out).1).trans HA1.out)
 have HA2':=Lib.hid ((hb1.block (w.heap.size+1) (Array.getElem?_eq_some_iff.1 HA2.out).1).trans HA2.out)
 have HB1:=Lib.hid (HB0.out.trans (hb1.mono HB0.out.size))
 have c0:=cell_at HA1'.out 0
 have c1:=cell_at HA1'.out 1
 have c2:=cell_at HA1'.out 2
 have c3:=cell_at HA1'.out 3
 simp only[List.getElem?_toArray,List.getElem?_cons_zero,List.getElem?_cons_succ]at c0 c1 c2 c3
 clear hb1 HA1 HA2 HB0
 by_cases hr:rm<(n:Int)
 ·have HQ:Hid ((Md.app ⟨h0,tk,g⟩ n)=(⟨h0,tk,g⟩,6)):=Lib.hid (by unfold Md.app;rw[HRE.out,if_pos hr])
  have hrs:rm<(s.size:Int):=by rw[HN.out];exact hr
  have I0:=Lib.hid (show (Tryz.prog.info? 31).map (·.size)=some (#[.int .i64 (h0:Int),.slice q x c,.int .i64 (tk:Int),.int .i64 (g:Int)]:Array Value).size from i31)
  have I1:=Lib.hid (show (#[.int .i64 0,.slice none 0 0,.int .i64 0,.int .i64 0]:Array Value).size=(#[.int .i64 (h0:Int),.slice q x c,.int .i64 (tk:Int),.int .i64 (g:Int)]:Array Value).size from rfl)
  have I2:=Lib.hid (show (#[.int .i64 (h0:Int),.slice q x c,.int .i64 (tk:Int),.int .i64 (g:Int)]:Array Value).all (·.oneCell')=true by simp[Value.oneCell'])
  go_wp2_with (with_reducible refine wpList_put 31 (w.heap.size+1) _ _ rfl rfl HA2'.out I0.out I1.out I2.out ?_)
  intro w5 hg hgr
  have HG:=Lib.hid hg
  have HB:=Lib.hid (below_put HB1.out hgr HB1.out.size (Nat.le_succ _))
  clear hg hgr c0 c1 c2 c3
  go_wp2
  refine bodyPost_ret (v:=.tuple #[.agg #[.int .i64 (h0:Int),.slice q x c,.int .i64 (tk:Int),.int .i64 (g:Int)],.int .i64 6]) (res2 Tryz.results49 _ _ _ (w.heap.size+1) _ _ rfl rfl (ld31 HG.out)) rfl ?_
  rw[HQ.out]
  exact⟨_,rfl,⟨q,x,c,ts,rfl,HROW.out.below HB.out,HTL.out,HSB.out.up HB.out.size⟩,HB.out⟩
 ·have HQ:Hid ((Md.app ⟨h0,tk,g⟩ n)=(⟨h0,tk+dsecs n,max g 1⟩,0)):=Lib.hid (by unfold Md.app;rw[HRE.out,if_neg hr])
  have HTS:Hid (tk+dsecs n≤h0):=Lib.hid (Md.app_taken HOK.out (by rw[HRE.out];exact hr))
  have hrs:¬rm<(s.size:Int):=by rw[HN.out];exact hr
  by_cases hg0:g=0
  ·subst hg0
   go_wp2_with fail
   have HBX:=Lib.hid HB1.out.size
   have HWR:Hid (IntKind.i64.wrap ((tk:Int)+((dsecs n:Nat):Int))=(tk:Int)+((dsecs n:Nat):Int)):=Lib.hid (by rw[IntKind.wrap_i64];have:=HTS.out;omega)
   refine wp_region_fine_turn 16 8 (by decide) (fun _ W=>Below w1.heap.size w1 W) (fun W W'=>Below w1.heap.size W W') (TJ w1.heap.size q x c w.heap.size (h0:Int) (tk:Int) ((dsecs n:Nat):Int) 1 s ts) (by kernel_rfl) (by kernel_rfl) (by kernel_rfl) (by kernel_rfl) ⟨rfl,rfl,rfl,Nat.le_refl _,fun _ _=>rfl⟩ (fun _ _ _ h hB=>h.trans (hB.mono h.size)) ?_ (TJ_last _ _ _ _ _ _ _ _ _ _ _) ?_ ?_ ?_ ?_
   ·intro ix o' v W W' ho hw hne hT _
    simp only[List.take_succ_cons,List.take_zero]at ho
    match ix,ho with
    |0,_=>exact hT
    |1,_=>exact hT
    |2,_=>exact fun h=>by cases h
    |3,_=>exact hT
    |4,_=>exact hT
    |5,_=>exact fun h=>by cases h
    |6,_=>exact hT
    |7,_=>exact fun h=>by cases h
    |8,_=>exact absurd rfl hne
    |9,_=>exact hT
    |10,_=>exact hT
    |11,_=>exact hT
    |12,_=>exact hT
    |13,_=>exact hT
    |14,_=>exact hT
    |15,ho =>
     obtain rfl:=Option.some.inj ho
     exact absurd hw (by decide +kernel)
    |ix+16,ho=>simp at ho
   ·intro ix o' jj b ho hg
    simp only[List.take_succ_cons,List.take_zero]at ho
    match ix,ho with
    |0,ho=>obtain rfl:=Option.some.inj ho;cases hg
    |1,ho=>obtain rfl:=Option.some.inj ho;cases hg
    |2,ho=>obtain rfl:=Option.some.inj ho;cases hg
    |3,ho=>obtain rfl:=Option.some.inj ho;cases hg
    |4,ho=>obtain rfl:=Option.some.inj ho;cases hg
    |5,ho=>obtain rfl:=Option.some.inj ho;cases hg
    |6,ho=>obtain rfl:=Option.some.inj ho;cases hg
    |7,ho=>obtain rfl:=Option.some.inj ho;cases hg
    |8,ho=>obtain rfl:=Option.some.inj ho;cases hg
    |9,ho=>obtain rfl:=Option.some.inj ho;cases hg
    |10,ho=>obtain rfl:=Option.some.inj ho;cases hg
    |11,ho=>obtain rfl:=Option.some.inj ho;cases hg
    |12,ho=>obtain rfl:=Option.some.inj ho;cases hg
    |13,ho=>obtain rfl:=Option.some.inj ho;cases hg
    |14,ho=>obtain rfl:=Option.some.inj ho;cases hg
    |15,ho=>obtain rfl:=Option.some.inj ho;cases hg
    |ix+16,ho=>simp at ho
   ·intro o' ho a' W hWI hdep hfix Q
    simp only[List.take_succ_cons,List.take_zero]at ho hdep hfix
    simp only[List.getElem?_cons_zero,List.getElem?_cons_succ,Option.some.injEq]at ho
    subst ho
    have e1:OwnS W w1.heap.size (a'.tmps.getD 22 undef) ts:=hdep 5 _ 22 rfl rfl (by decide +kernel) rfl
    obtain⟨b,e2,hb⟩:OneS s (a'.tmps.getD 24 undef) W:=hdep 7 _ 24 rfl rfl (by decide +kernel) rfl
    obtain⟨v',W',hr',hown,hbl⟩:=appS_own e1 hb (by have:=HX.out;omega) hWI.size 29
    rw[←e2]at hr'
    unfold Oper.wp
    rw[exec_appS (x:=.tmp 22) (y:=.tmp 24) rfl rfl hr']
    exact⟨v',rfl,hbl,hWI.trans hbl,hown⟩
   ·intro ix o' ho hne a' W b hWI _ hph hdep hfix
    simp only[List.take_succ_cons,List.take_zero]at ho hdep hfix hph
    have d0:=(hWI.cell (p:=⟨w.heap.size,0,none⟩) (Array.getElem?_eq_some_iff.1 HA1'.out).1).trans c0
    have d1:=(hWI.cell (p:=⟨w.heap.size,1,none⟩) (Array.getElem?_eq_some_iff.1 HA1'.out).1).trans c1
    have d2:=(hWI.cell (p:=⟨w.heap.size,2,none⟩) (Array.getElem?_eq_some_iff.1 HA1'.out).1).trans c2
    match ix,ho with
    |0,ho =>
     obtain rfl:=Option.some.inj ho
     have e1:a'.tmps.getD 2 undef=.pointer (some ⟨w.heap.size,0,none⟩):=hfix 2 (by decide +kernel)
     exact lays_eq _ rfl (exec_fdT e1 (fa31 w.heap.size W).1)
    |1,ho =>
     obtain rfl:=Option.some.inj ho
     have e1:a'.tmps.getD 17 undef=.pointer (some ⟨w.heap.size,0,none⟩):=hdep 0 _ 17 rfl rfl (by decide +kernel)
     exact lays_eq _ rfl (exec_ldT e1 (ld3o d0))
    |2,ho =>
     obtain rfl:=Option.some.inj ho
     exact lays_value exec_bs29z (below_new W _) (fun _=>⟨W.heap.size,rfl,hWI.size,heap_alloc_new W _⟩)
    |3,ho =>
     obtain rfl:=Option.some.inj ho
     have e1:a'.tmps.getD 2 undef=.pointer (some ⟨w.heap.size,0,none⟩):=hfix 2 (by decide +kernel)
     exact lays_eq _ rfl (exec_fdT e1 (fa31 w.heap.size W).2.1)
    |4,ho =>
     obtain rfl:=Option.some.inj ho
     have e1:a'.tmps.getD 20 undef=.pointer (some ⟨w.heap.size,1,none⟩):=hdep 3 _ 20 rfl rfl (by decide +kernel)
     exact lays_eq _ rfl (exec_ldT e1 (ld29o d1))
    |5,ho =>
     obtain rfl:=Option.some.inj ho
     have hb:b=false:=by
      cases b with
      |false=>rfl
      |true=>exact absurd (hph _ rfl rfl) (by decide +kernel)
     subst hb
     have e1:a'.tmps.getD 21 undef=.slice q x c:=hdep 4 _ 21 rfl rfl (by decide +kernel)
     obtain⟨be,e2,hbe,hbh⟩:EmpS w1.heap.size (a'.tmps.getD 19 undef) W:=hdep 2 _ 19 rfl rfl (by decide +kernel) rfl
     have hRW:=HROW.out.below (HB1.out.trans (hWI.mono HB1.out.size))
     obtain⟨v',W',hr',hown,hbl⟩:=appS_fresh hbe hbh hRW (by omega) hWI.size 29
     rw[←e2,←e1]at hr'
     exact lays_value (exec_appS (x:=.tmp 19) (y:=.tmp 21) rfl rfl hr') hbl (fun _=>hown)
    |6,ho =>
     obtain rfl:=Option.some.inj ho
     exact lays_eq _ rfl (exec_move (hfix 1 (by decide +kernel)))
    |7,ho =>
     obtain rfl:=Option.some.inj ho
     have e1:a'.tmps.getD 23 undef=.string s:=hdep 6 _ 23 rfl rfl (by decide +kernel)
     exact lays_value (exec_bs29s e1) (below_new W _) (fun _=>⟨W.heap.size,rfl,heap_alloc_new W _⟩)
    |8,ho=>exact absurd rfl hne
    |9,ho =>
     obtain rfl:=Option.some.inj ho
     have e1:a'.tmps.getD 2 undef=.pointer (some ⟨w.heap.size,0,none⟩):=hfix 2 (by decide +kernel)
     exact lays_eq _ rfl (exec_fdT e1 (fa31 w.heap.size W).2.2.1)
    |10,ho =>
     obtain rfl:=Option.some.inj ho
     have e1:a'.tmps.getD 26 undef=.pointer (some ⟨w.heap.size,2,none⟩):=hdep 9 _ 26 rfl rfl (by decide +kernel)
     exact lays_eq _ rfl (exec_ldT e1 (ld3o d2))
    |11,ho =>
     obtain rfl:=Option.some.inj ho
     exact lays_eq _ rfl (exec_move (hfix 1 (by decide +kernel)))
    |12,ho =>
     obtain rfl:=Option.some.inj ho
     have e1:a'.tmps.getD 28 undef=.string s:=hdep 11 _ 28 rfl rfl (by decide +kernel)
     refine lays_call #[.string s] (by simp[Act.eval,e1]) (by kernel_rfl) ((HTK.out W).mono ?_)
     rintro e W2 ⟨rfl,rfl⟩
     exact⟨_,rfl,Below.refl _ _,rfl⟩
    |13,ho =>
     obtain rfl:=Option.some.inj ho
     have e1:a'.tmps.getD 27 undef=.int .i64 (tk:Int):=hdep 10 _ 27 rfl rfl (by decide +kernel)
     have e2:a'.tmps.getD 29 undef=.int .i64 ((dsecs n:Nat):Int):=hdep 12 _ 29 rfl rfl (by decide +kernel)
     exact lays_eq _ rfl (exec_add3 e1 e2 HWR.out)
    |14,ho =>
     obtain rfl:=Option.some.inj ho
     have e1:a'.tmps.getD 6 undef=.int .i64 1:=hfix 6 (by decide +kernel)
     exact lays_eq _ rfl (exec_move e1)
    |15,ho =>
     obtain rfl:=Option.some.inj ho
     have e1:a'.tmps.getD 18 undef=.int .i64 (h0:Int):=hdep 1 _ 18 rfl rfl (by decide +kernel)
     have e2:OwnS W w1.heap.size (a'.tmps.getD 25 undef) (ts++[s]):=hdep 8 _ 25 rfl rfl (by decide +kernel)
     have e3:a'.tmps.getD 30 undef=.int .i64 ((tk:Int)+((dsecs n:Nat):Int)):=hdep 13 _ 30 rfl rfl (by decide +kernel)
     have e4:a'.tmps.getD 31 undef=.int .i64 1:=hdep 14 _ 31 rfl rfl (by decide +kernel)
     obtain⟨pp,cc,e5⟩:=e2.form
     exact lays_eq _ ⟨_,by rw[e5],e2⟩ (exec_bd31 e1 e5 e3 e4)
    |ix+16,ho=>simp at ho
   ·intro a' W hWI hd hsz hfix hT
    simp only[List.take_succ_cons,List.take_zero,List.drop_succ_cons,List.drop_zero]at hfix hT ⊢
    have f4:a'.tmps.getD 4 undef=.pointer (some ⟨w.heap.size+1,0,none⟩):=hfix 4 (by decide +kernel)
    obtain⟨u,f32,hown⟩:BldS w1.heap.size (ts++[s]) (h0:Int) ((tk:Int)+((dsecs n:Nat):Int)) 1 (a'.tmps.getD 32 undef) W:=hT 15 _ 32 rfl rfl
    rw[frame_lit a' 33 hsz hd]
    clear hfix hT hsz hd
    simp only[List.range,List.range.loop,List.map]
    generalize a'.tmps=tm at *
    simp only[f4,f32]
    clear f4 f32
    obtain⟨pp,cc,hu⟩:=hown.form
    have HZ:=Lib.hid ((hWI.block (w.heap.size+1) (Array.getElem?_eq_some_iff.1 HA2'.out).1).trans HA2'.out)
    have HBW:=Lib.hid (HB1.out.trans (hWI.mono HB1.out.size))
    have HOW:=Lib.hid hown
    have HLE:Hid ((ts++[s]).length=x+1):=Lib.hid (by rw[List.length_append,HX.out];rfl)
    rw[HLE.out]at hu
    have HU:=Lib.hid hu
    rw[hu]
    have I0:=Lib.hid (show (Tryz.prog.info? 31).map (·.size)=some (#[.int .i64 (h0:Int),.slice pp (x+1) cc,.int .i64 ((tk:Int)+((dsecs n:Nat):Int)),.int .i64 1]:Array Value).size from i31)
    have I1:=Lib.hid (show (#[.int .i64 0,.slice none 0 0,.int .i64 0,.int .i64 0]:Array Value).size=(#[.int .i64 (h0:Int),.slice pp (x+1) cc,.int .i64 ((tk:Int)+((dsecs n:Nat):Int)),.int .i64 1]:Array Value).size from rfl)
    have I2:=Lib.hid (show (#[.int .i64 (h0:Int),.slice pp (x+1) cc,.int .i64 ((tk:Int)+((dsecs n:Nat):Int)),.int .i64 1]:Array Value).all (·.oneCell')=true by simp[Value.oneCell'])
    clear hu hown hWI
    go_wp2_with (with_reducible refine wpList_put 31 (w.heap.size+1) _ _ rfl rfl HZ.out I0.out I1.out I2.out ?_)
    intro w5 hg hgr
    have HG:=Lib.hid hg
    have HB:=Lib.hid (below_put HBW.out hgr HBW.out.size (Nat.le_succ _))
    have HO5:Hid (OwnS w5 w1.heap.size (.slice pp (x+1) cc) (ts++[s])):=Lib.hid (by
     have h5:=HOW.out
     rw[HU.out]at h5
     exact h5.kept hgr (by
      cases hv:(Value.slice pp (x+1) cc).ownBlock with
      |none=>exact Or.inl rfl
      |some k=>exact Or.inr (by have:=(h5.lt k hv).1;have:=(Array.getElem?_eq_some_iff.1 HA2'.out).1;simp;omega)))
    clear hg hgr
    go_wp2
    refine bodyPost_ret (v:=.tuple #[.agg #[.int .i64 (h0:Int),.slice pp (x+1) cc,.int .i64 ((tk:Int)+((dsecs n:Nat):Int)),.int .i64 1],.int .i64 0]) (res2 Tryz.results49 _ _ _ (w.heap.size+1) _ _ rfl rfl (ld31 HG.out)) rfl ?_
    rw[HQ.out]
    refine⟨_,rfl,⟨pp,x+1,cc,ts++[s],?_,HO5.out.strs,?_,HO5.out.sb fun k hk=>HS0.out k (Nat.le_trans HB1.out.size hk)⟩,HB.out⟩
    ·simp only[Value.agg.injEq,Array.mk.injEq,List.cons.injEq,Value.int.injEq,and_true,true_and]
     omega
    ·rw[HLE.out]
     show x+1≤tk+dsecs n
     have:=HTL.out;have:=HX.out;unfold dsecs;omega
  ·have hg1:¬(g:Int)=0:=by omega
   have hg2:((g:Int) == 0)=false:=by simpa using hg1
   go_wp2_with fail
   have HBX:=Lib.hid HB1.out.size
   have HWR:Hid (IntKind.i64.wrap ((tk:Int)+((dsecs n:Nat):Int))=(tk:Int)+((dsecs n:Nat):Int)):=Lib.hid (by rw[IntKind.wrap_i64];have:=HTS.out;omega)
   refine wp_region_fine_turn 16 8 (by decide) (fun _ W=>Below w1.heap.size w1 W) (fun W W'=>Below w1.heap.size W W') (TJ w1.heap.size q x c w.heap.size (h0:Int) (tk:Int) ((dsecs n:Nat):Int) (g:Int) s ts) (by kernel_rfl) (by kernel_rfl) (by kernel_rfl) (by kernel_rfl) ⟨rfl,rfl,rfl,Nat.le_refl _,fun _ _=>rfl⟩ (fun _ _ _ h hB=>h.trans (hB.mono h.size)) ?_ (TJ_last _ _ _ _ _ _ _ _ _ _ _) ?_ ?_ ?_ ?_
   ·intro ix o' v W W' ho hw hne hT _
    simp only[List.take_succ_cons,List.take_zero]at ho
    match ix,ho with
    |0,_=>exact hT
    |1,_=>exact hT
    |2,_=>exact fun h=>by cases h
    |3,_=>exact hT
    |4,_=>exact hT
    |5,_=>exact fun h=>by cases h
    |6,_=>exact hT
    |7,_=>exact fun h=>by cases h
    |8,_=>exact absurd rfl hne
    |9,_=>exact hT
    |10,_=>exact hT
    |11,_=>exact hT
    |12,_=>exact hT
    |13,_=>exact hT
    |14,_=>exact hT
    |15,ho =>
     obtain rfl:=Option.some.inj ho
     exact absurd hw (by decide +kernel)
    |ix+16,ho=>simp at ho
   ·intro ix o' jj b ho hg
    simp only[List.take_succ_cons,List.take_zero]at ho
    match ix,ho with
    |0,ho=>obtain rfl:=Option.some.inj ho;cases hg
    |1,ho=>obtain rfl:=Option.some.inj ho;cases hg
    |2,ho=>obtain rfl:=Option.some.inj ho;cases hg
    |3,ho=>obtain rfl:=Option.some.inj ho;cases hg
    |4,ho=>obtain rfl:=Option.some.inj ho;cases hg
    |5,ho=>obtain rfl:=Option.some.inj ho;cases hg
    |6,ho=>obtain rfl:=Option.some.inj ho;cases hg
    |7,ho=>obtain rfl:=Option.some.inj ho;cases hg
    |8,ho=>obtain rfl:=Option.some.inj ho;cases hg
    |9,ho=>obtain rfl:=Option.some.inj ho;cases hg
    |10,ho=>obtain rfl:=Option.some.inj ho;cases hg
    |11,ho=>obtain rfl:=Option.some.inj ho;cases hg
    |12,ho=>obtain rfl:=Option.some.inj ho;cases hg
    |13,ho=>obtain rfl:=Option.some.inj ho;cases hg
    |14,ho=>obtain rfl:=Option.some.inj ho;cases hg
    |15,ho=>obtain rfl:=Option.some.inj ho;cases hg
    |ix+16,ho=>simp at ho
   ·intro o' ho a' W hWI hdep hfix Q
    simp only[List.take_succ_cons,List.take_zero]at ho hdep hfix
    simp only[List.getElem?_cons_zero,List.getElem?_cons_succ,Option.some.injEq]at ho
    subst ho
    have e1:OwnS W w1.heap.size (a'.tmps.getD 22 undef) ts:=hdep 5 _ 22 rfl rfl (by decide +kernel) rfl
    obtain⟨b,e2,hb⟩:OneS s (a'.tmps.getD 24 undef) W:=hdep 7 _ 24 rfl rfl (by decide +kernel) rfl
    obtain⟨v',W',hr',hown,hbl⟩:=appS_own e1 hb (by have:=HX.out;omega) hWI.size 29
    rw[←e2]at hr'
    unfold Oper.wp
    rw[exec_appS (x:=.tmp 22) (y:=.tmp 24) rfl rfl hr']
    exact⟨v',rfl,hbl,hWI.trans hbl,hown⟩
   ·intro ix o' ho hne a' W b hWI _ hph hdep hfix
    simp only[List.take_succ_cons,List.take_zero]at ho hdep hfix hph
    have d0:=(hWI.cell (p:=⟨w.heap.size,0,none⟩) (Array.getElem?_eq_some_iff.1 HA1'.out).1).trans c0
    have d1:=(hWI.cell (p:=⟨w.heap.size,1,none⟩) (Array.getElem?_eq_some_iff.1 HA1'.out).1).trans c1
    have d2:=(hWI.cell (p:=⟨w.heap.size,2,none⟩) (Array.getElem?_eq_some_iff.1 HA1'.out).1).trans c2
    match ix,ho with
    |0,ho =>
     obtain rfl:=Option.some.inj ho
     have e1:a'.tmps.getD 2 undef=.pointer (some ⟨w.heap.size,0,none⟩):=hfix 2 (by decide +kernel)
     exact lays_eq _ rfl (exec_fdT e1 (fa31 w.heap.size W).1)
    |1,ho =>
     obtain rfl:=Option.some.inj ho
     have e1:a'.tmps.getD 17 undef=.pointer (some ⟨w.heap.size,0,none⟩):=hdep 0 _ 17 rfl rfl (by decide +kernel)
     exact lays_eq _ rfl (exec_ldT e1 (ld3o d0))
    |2,ho =>
     obtain rfl:=Option.some.inj ho
     exact lays_value exec_bs29z (below_new W _) (fun _=>⟨W.heap.size,rfl,hWI.size,heap_alloc_new W _⟩)
    |3,ho =>
     obtain rfl:=Option.some.inj ho
     have e1:a'.tmps.getD 2 undef=.pointer (some ⟨w.heap.size,0,none⟩):=hfix 2 (by decide +kernel)
     exact lays_eq _ rfl (exec_fdT e1 (fa31 w.heap.size W).2.1)
    |4,ho =>
     obtain rfl:=Option.some.inj ho
     have e1:a'.tmps.getD 20 undef=.pointer (some ⟨w.heap.size,1,none⟩):=hdep 3 _ 20 rfl rfl (by decide +kernel)
     exact lays_eq _ rfl (exec_ldT e1 (ld29o d1))
    |5,ho =>
     obtain rfl:=Option.some.inj ho
     have hb:b=false:=by
      cases b with
      |false=>rfl
      |true=>exact absurd (hph _ rfl rfl) (by decide +kernel)
     subst hb
     have e1:a'.tmps.getD 21 undef=.slice q x c:=hdep 4 _ 21 rfl rfl (by decide +kernel)
     obtain⟨be,e2,hbe,hbh⟩:EmpS w1.heap.size (a'.tmps.getD 19 undef) W:=hdep 2 _ 19 rfl rfl (by decide +kernel) rfl
     have hRW:=HROW.out.below (HB1.out.trans (hWI.mono HB1.out.size))
     obtain⟨v',W',hr',hown,hbl⟩:=appS_fresh hbe hbh hRW (by omega) hWI.size 29
     rw[←e2,←e1]at hr'
     exact lays_value (exec_appS (x:=.tmp 19) (y:=.tmp 21) rfl rfl hr') hbl (fun _=>hown)
    |6,ho =>
     obtain rfl:=Option.some.inj ho
     exact lays_eq _ rfl (exec_move (hfix 1 (by decide +kernel)))
    |7,ho =>
     obtain rfl:=Option.some.inj ho
     have e1:a'.tmps.getD 23 undef=.string s:=hdep 6 _ 23 rfl rfl (by decide +kernel)
     exact lays_value (exec_bs29s e1) (below_new W _) (fun _=>⟨W.heap.size,rfl,heap_alloc_new W _⟩)
    |8,ho=>exact absurd rfl hne
    |9,ho =>
     obtain rfl:=Option.some.inj ho
     have e1:a'.tmps.getD 2 undef=.pointer (some ⟨w.heap.size,0,none⟩):=hfix 2 (by decide +kernel)
     exact lays_eq _ rfl (exec_fdT e1 (fa31 w.heap.size W).2.2.1)
    |10,ho =>
     obtain rfl:=Option.some.inj ho
     have e1:a'.tmps.getD 26 undef=.pointer (some ⟨w.heap.size,2,none⟩):=hdep 9 _ 26 rfl rfl (by decide +kernel)
     exact lays_eq _ rfl (exec_ldT e1 (ld3o d2))
    |11,ho =>
     obtain rfl:=Option.some.inj ho
     exact lays_eq _ rfl (exec_move (hfix 1 (by decide +kernel)))
    |12,ho =>
     obtain rfl:=Option.some.inj ho
     have e1:a'.tmps.getD 28 undef=.string s:=hdep 11 _ 28 rfl rfl (by decide +kernel)
     refine lays_call #[.string s] (by simp[Act.eval,e1]) (by kernel_rfl) ((HTK.out W).mono ?_)
     rintro e W2 ⟨rfl,rfl⟩
     exact⟨_,rfl,Below.refl _ _,rfl⟩
    |13,ho =>
     obtain rfl:=Option.some.inj ho
     have e1:a'.tmps.getD 27 undef=.int .i64 (tk:Int):=hdep 10 _ 27 rfl rfl (by decide +kernel)
     have e2:a'.tmps.getD 29 undef=.int .i64 ((dsecs n:Nat):Int):=hdep 12 _ 29 rfl rfl (by decide +kernel)
     exact lays_eq _ rfl (exec_add3 e1 e2 HWR.out)
    |14,ho =>
     obtain rfl:=Option.some.inj ho
     have e1:a'.tmps.getD 6 undef=.int .i64 (g:Int):=hfix 6 (by decide +kernel)
     exact lays_eq _ rfl (exec_move e1)
    |15,ho =>
     obtain rfl:=Option.some.inj ho
     have e1:a'.tmps.getD 18 undef=.int .i64 (h0:Int):=hdep 1 _ 18 rfl rfl (by decide +kernel)
     have e2:OwnS W w1.heap.size (a'.tmps.getD 25 undef) (ts++[s]):=hdep 8 _ 25 rfl rfl (by decide +kernel)
     have e3:a'.tmps.getD 30 undef=.int .i64 ((tk:Int)+((dsecs n:Nat):Int)):=hdep 13 _ 30 rfl rfl (by decide +kernel)
     have e4:a'.tmps.getD 31 undef=.int .i64 (g:Int):=hdep 14 _ 31 rfl rfl (by decide +kernel)
     obtain⟨pp,cc,e5⟩:=e2.form
     exact lays_eq _ ⟨_,by rw[e5],e2⟩ (exec_bd31 e1 e5 e3 e4)
    |ix+16,ho=>simp at ho
   ·intro a' W hWI hd hsz hfix hT
    simp only[List.take_succ_cons,List.take_zero,List.drop_succ_cons,List.drop_zero]at hfix hT ⊢
    have f4:a'.tmps.getD 4 undef=.pointer (some ⟨w.heap.size+1,0,none⟩):=hfix 4 (by decide +kernel)
    obtain⟨u,f32,hown⟩:BldS w1.heap.size (ts++[s]) (h0:Int) ((tk:Int)+((dsecs n:Nat):Int)) (g:Int) (a'.tmps.getD 32 undef) W:=hT 15 _ 32 rfl rfl
    rw[frame_lit a' 33 hsz hd]
    clear hfix hT hsz hd
    simp only[List.range,List.range.loop,List.map]
    generalize a'.tmps=tm at *
    simp only[f4,f32]
    clear f4 f32
    obtain⟨pp,cc,hu⟩:=hown.form
    have HZ:=Lib.hid ((hWI.block (w.heap.size+1) (Array.getElem?_eq_some_iff.1 HA2'.out).1).trans HA2'.out)
    have HBW:=Lib.hid (HB1.out.trans (hWI.mono HB1.out.size))
    have HOW:=Lib.hid hown
    have HLE:Hid ((ts++[s]).length=x+1):=Lib.hid (by rw[List.length_append,HX.out];rfl)
    rw[HLE.out]at hu
    have HU:=Lib.hid hu
    rw[hu]
    have I0:=Lib.hid (show (Tryz.prog.info? 31).map (·.size)=some (#[.int .i64 (h0:Int),.slice pp (x+1) cc,.int .i64 ((tk:Int)+((dsecs n:Nat):Int)),.int .i64 (g:Int)]:Array Value).size from i31)
    have I1:=Lib.hid (show (#[.int .i64 0,.slice none 0 0,.int .i64 0,.int .i64 0]:Array Value).size=(#[.int .i64 (h0:Int),.slice pp (x+1) cc,.int .i64 ((tk:Int)+((dsecs n:Nat):Int)),.int .i64 (g:Int)]:Array Value).size from rfl)
    have I2:=Lib.hid (show (#[.int .i64 (h0:Int),.slice pp (x+1) cc,.int .i64 ((tk:Int)+((dsecs n:Nat):Int)),.int .i64 (g:Int)]:Array Value).all (·.oneCell')=true by simp[Value.oneCell'])
    clear hu hown hWI
    go_wp2_with (with_reducible refine wpList_put 31 (w.heap.size+1) _ _ rfl rfl HZ.out I0.out I1.out I2.out ?_)
    intro w5 hg hgr
    have HG:=Lib.hid hg
    have HB:=Lib.hid (below_put HBW.out hgr HBW.out.size (Nat.le_succ _))
    have HO5:Hid (OwnS w5 w1.heap.size (.slice pp (x+1) cc) (ts++[s])):=Lib.hid (by
     have h5:=HOW.out
     rw[HU.out]at h5
     exact h5.kept hgr (by
      cases hv:(Value.slice pp (x+1) cc).ownBlock with
      |none=>exact Or.inl rfl
      |some k=>exact Or.inr (by have:=(h5.lt k hv).1;have:=(Array.getElem?_eq_some_iff.1 HA2'.out).1;simp;omega)))
    clear hg hgr
    go_wp2
    refine bodyPost_ret (v:=.tuple #[.agg #[.int .i64 (h0:Int),.slice pp (x+1) cc,.int .i64 ((tk:Int)+((dsecs n:Nat):Int)),.int .i64 (g:Int)],.int .i64 0]) (res2 Tryz.results49 _ _ _ (w.heap.size+1) _ _ rfl rfl (ld31 HG.out)) rfl ?_
    rw[HQ.out]
    refine⟨_,rfl,⟨pp,x+1,cc,ts++[s],?_,HO5.out.strs,?_,HO5.out.sb fun k hk=>HS0.out k (Nat.le_trans HB1.out.size hk)⟩,HB.out⟩
    ·simp only[Value.agg.injEq,Array.mk.injEq,List.cons.injEq,Value.int.injEq,and_true,true_and]
     omega
    ·rw[HLE.out]
     show x+1≤tk+dsecs n
     have:=HTL.out;have:=HX.out;unfold dsecs;omega
end Go.Proofs.YtlogjpmdfimgdaaGreatDoor

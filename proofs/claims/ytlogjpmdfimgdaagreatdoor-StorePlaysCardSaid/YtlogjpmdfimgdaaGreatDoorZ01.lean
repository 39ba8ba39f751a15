/- Laws for calls that make memory of their own and write to that alone: the world as an old one with a list of new blocks behind it. No condition. -/
import Derived.WalkKit
import Derived.WalkSpells
import Derived.WalkLawsBesides
import Derived.Laws.BitsAllLaws
import Derived.Lib.Hide
namespace Go.Own.Jf
open Go.RowKit
def Wd(w:World)(l:List Obj)(d:Nat):World:={ w with heap:=w.heap++l.toArray,drawn:=d }
def Grows(w w':World):Prop:=∃l d,w'=Wd w l d
theorem Wd_nil(w:World):Wd w [] w.drawn=w:=by simp[Wd]
theorem Wd_wd(w:World)(l m:List Obj)(d e:Nat):Wd (Wd w l d) m e=Wd w (l++m) e:=by
 simp[Wd]
@[go_sem] theorem Wd_drew(w:World)(l:List Obj)(d:Nat):(Wd w l d).drew=Wd w l (d+1):=rfl
@[go_sem] theorem Wd_alloc(w:World)(l:List Obj)(d:Nat)(o:Obj):(Wd w l d).alloc o=Wd w (l++[o]) d:=by
 simp[Wd,World.alloc]
@[go_sem] theorem Wd_size(w:World)(l:List Obj)(d:Nat):(Wd w l d).heap.size=w.heap.size+l.length:=by simp[Wd]
def blk(W:World)(b:Nat):Option Obj:=W.heap[b]?
theorem Wd_at(w:World)(l:List Obj)(d i:Nat):(Wd w l d).heap[w.heap.size+i]?=l[i]?:=by
 rw[Wd,Array.getElem?_append_right (by omega)]
 simp
theorem blk_at(w:World)(l:List Obj)(d i:Nat):blk (Wd w l d) (w.heap.size+i)=l[i]?:=Wd_at w l d i
theorem blk_at0(w:World)(l:List Obj)(d:Nat):blk (Wd w l d) w.heap.size=l[0]?:=Wd_at w l d 0
theorem blk_old(w:World)(l:List Obj)(d b:Nat){o:Obj}(h:blk w b=some o):blk (Wd w l d) b=some o:=by
 unfold blk at h ⊢
 have hb:b<w.heap.size:=by
  rcases Nat.lt_or_ge b w.heap.size with h' | h'
  ·exact h'
  ·simp[Array.getElem?_eq_none h']at h
 simp only[Wd,Array.getElem?_append,if_pos hb,h]
theorem Wd_old(w:World)(l:List Obj)(d b:Nat){o:Obj}(h:w.heap[b]?=some o):(Wd w l d).heap[b]?=some o:=by
 have hb:b<w.heap.size:=by
  rcases Nat.lt_or_ge b w.heap.size with h' | h'
  ·exact h'
  ·simp[Array.getElem?_eq_none h']at h
 simp only[Wd,Array.getElem?_append,if_pos hb,h]
theorem Grows.refl(w:World):Grows w w:=⟨[],_,(Wd_nil w).symm⟩
theorem Grows.of(w:World)(l:List Obj)(d:Nat):Grows w (Wd w l d):=⟨l,d,rfl⟩
theorem Grows.blk{w w':World}(h:Grows w w'){b:Nat}{o:Obj}(hb:Own.Jf.blk w b=some o):Own.Jf.blk w' b=some o:=by
 obtain⟨l,d,rfl⟩:=h;exact blk_old _ _ _ _ hb
theorem Grows.below{w w':World}(h:Grows w w'):Below w.heap.size w w':=by
 obtain⟨l,d,rfl⟩:=h
 refine⟨rfl,rfl,rfl,by simp[Wd],fun k hk=>?_⟩
 simp[Wd,Array.getElem?_append,hk]
theorem calls_wd{P:Program}{f:FuncId}{args:Array Value}{w:World}{R:Ending→World→Prop}(h:Calls P f args (Wd w [] w.drawn) R):Calls P f args w R:=by
 rwa [Wd_nil]at h
def cv(k:IntKind)(s:List Nat):Array Value:=(s.map fun (n:Nat)=>Value.int k (n:Int)).toArray
@[simp] theorem cv_size(k:IntKind)(s:List Nat):(cv k s).size=s.length:=by simp[cv]
def gi(s:List Nat)(i:Nat):Nat:=s.getD i 0
theorem cv_get(k:IntKind)(s:List Nat)(i:Nat)(h:i<s.length):(cv k s)[i]?=some (.int k (gi s i)):=by
 simp[cv,gi,List.getD,h]
theorem cv_extract(k:IntKind)(s:List Nat)(a n:Nat):(cv k s).extract a (a+n)=cv k ((s.drop a).take n):=by
 apply Array.ext'
 simp[cv,List.extract_eq_take_drop]
def spl(s:List Nat)(o:Nat)(x:List Nat):List Nat:=s.take o++x++s.drop (o+x.length)
theorem spl_length(s:List Nat)(o:Nat)(x:List Nat)(h:o+x.length≤s.length):(spl s o x).length=s.length:=by
 simp[spl];omega
def aggSize(P:Program)(T:TypeId):Option Nat :=
 match P.underlying T with
 |some (.struct _) | some (.array _ _)=>(P.info? T).map (·.size)
 |_=>none
theorem isAgg_of{P:Program}{T:TypeId}{n:Nat}(h:aggSize P T=some n)(w:World) :
  (isAgg T).run P w=.ok true w∧(sizeOf T).run P w=.ok n w:=by
 unfold aggSize at h
 cases hu:P.underlying T with
 |none=>simp[hu]at h
 |some d =>
  rw[hu]at h
  cases hi:P.info? T with
  |none=>cases d <;> simp[hi]at h
  |some i =>
   rw[hi]at h
   cases d <;> simp at h
   all_goals
    subst h
    refine⟨?_,by simp[sizeOf,typeInfo,hi]⟩
    unfold isAgg
    rw[Sem.run_bind,run_underlying hu w]
    rfl
def ldN(T:TypeId)(v:Value):Sem Value:=Instr.loadAt T v
@[go_sem ↓] theorem execOp_load(ρ:Operand→Value)(dst:Option Tmp)(T:TypeId)(x:Operand)(ty:TypeId)(pos:String)(after:Array Edge)(guard:Option (Nat×Bool)) :
  execOp ρ { dst,op:=.load T x,type:=ty,pos,after,guard }=(ldN T (ρ x) >>= fun v=>pure (.value v)):=rfl
def ldX(P:Program)(T:TypeId)(_sz:Option Nat)(_ob:Option Obj)(b o:Nat)(W:World):Result Value:=(ldN T (.pointer (some ⟨b,o,none⟩))).run P W
@[go_sem] theorem run_ldN(P:Program)(T:TypeId)(b o:Nat)(W:World) :
  (ldN T (.pointer (some ⟨b,o,none⟩))).run P W=ldX P T (aggSize P T) (blk W b) b o W:=rfl
@[go_sem] theorem ldX_agg{P:Program}{T:TypeId}{n b o:Nat}{W:World}{k:IntKind}{s:List Nat}{t:TypeId}{f:Nat×Nat}
  (h1:aggSize P T=some n) (h2:blk W b=some (.cells (cv k s) t f)) (h3:o+n≤s.length) :
  ldX P T (some n) (some (.cells (cv k s) t f)) b o W=.ok (.agg (cv k ((s.drop o).take n))) W:=by
 obtain⟨ha,hs⟩:=isAgg_of h1 W
 have hl:(loadCells ⟨b,o,none⟩ n).run P W=.ok (cv k ((s.drop o).take n)) W:=by
  have hlen:(cv k ((s.drop o).take n)).toList.length=n:=by simp[cv];omega
  have:=run_loadCells_list (P:=P) W ⟨b,o,none⟩ (cv k ((s.drop o).take n)).toList (fun j v hv=>by
   have hadd:(⟨b,o,none⟩:Addr).add j=⟨b,o+j,none⟩:=by unfold Addr.add;split <;> simp_all
   rw[hadd]
   have hj:j<n:=by
    rcases Nat.lt_or_ge j n with h | h
    ·exact h
    ·rw[List.getElem?_eq_none (by omega)]at hv;cases hv
   simp only[World.cell?,show W.heap[b]?=_ from h2,Option.isSome_none,Bool.false_eq_true,if_false]
   rw[cv_get _ _ _ (by omega)]
   simp[cv,hj]at hv
   obtain⟨a,ha,rfl⟩:=hv
   simp[gi,List.getD,ha])
  rw[hlen]at this
  simpa using this
 simp[ldX,ldN,Instr.loadAt,Instr.sureAddr,loadVar,ha,hs,hl]
@[go_sem] theorem ldX_one{P:Program}{T:TypeId}{b o:Nat}{W:World}{k:IntKind}{s:List Nat}{t:TypeId}{f:Nat×Nat}(ha:(isAgg T).run P W=.ok false W)
  (h2:blk W b=some (.cells (cv k s) t f)) (h3:o<s.length) :
  ldX P T none (some (.cells (cv k s) t f)) b o W=.ok (.int k ((gi s o:Nat):Int)) W:=by
 have hc:W.cell? ⟨b,o,none⟩=some (.int k ((gi s o:Nat):Int)):=by
  simp only[World.cell?,show W.heap[b]?=_ from h2,Option.isSome_none,Bool.false_eq_true,if_false]
  exact cv_get _ _ _ h3
 simp[ldX,ldN,Instr.loadAt,Instr.sureAddr,loadVar,ha,hc]
@[go_sem] theorem ldX_box{P:Program}{T:TypeId}{b:Nat}{W:World}{v:Value}{t:TypeId}{f:Nat×Nat}(ha:(isAgg T).run P W=.ok false W)
  (h2:blk W b=some (.cells #[v] t f)) :
  ldX P T none (some (.cells #[v] t f)) b 0 W=.ok v W:=by
 have hc:W.cell? ⟨b,0,none⟩=some v:=by
  simp[World.cell?,show W.heap[b]?=_ from h2]
 simp[ldX,ldN,Instr.loadAt,Instr.sureAddr,loadVar,ha,hc]
attribute [go_sem] blk_at blk_at0 cv_extract List.take_of_length_le
def stN(T:TypeId)(a v:Value):Sem Unit:=Instr.storeAt T a v
@[go_sem ↓] theorem execOp_store(ρ:Operand→Value)(dst:Option Tmp)(T:TypeId)(a x:Operand)(ty:TypeId)(pos:String)(after:Array Edge)(guard:Option (Nat×Bool)) :
  execOp ρ { dst,op:=.store T a x,type:=ty,pos,after,guard }=(stN T (ρ a) (ρ x) >>= fun _=>pure .skip):=rfl
def stX(P:Program)(T:TypeId)(_sz:Nat)(_ob:Option Obj)(w:World)(l:List Obj)(d i o:Nat)(v:Value):Result Unit :=
 (stN T (.pointer (some ⟨w.heap.size+i,o,none⟩)) v).run P (Wd w l d)
@[go_sem] theorem run_stN(P:Program)(T:TypeId)(w:World)(l:List Obj)(d i o:Nat)(v:Value) :
  (stN T (.pointer (some ⟨w.heap.size+i,o,none⟩)) v).run P (Wd w l d)=stX P T (P.cellsOf T) l[i]? w l d i o v:=rfl
@[go_sem] theorem run_stN0(P:Program)(T:TypeId)(w:World)(l:List Obj)(d o:Nat)(v:Value) :
  (stN T (.pointer (some ⟨w.heap.size,o,none⟩)) v).run P (Wd w l d)=stX P T (P.cellsOf T) l[0]? w l d 0 o v:=rfl
theorem Wd_setRow(w:World)(l:List Obj)(d i:Nat)(c c':Array Value)(t:TypeId)(f:Nat×Nat)(h:l[i]?=some (.cells c t f)) :
  (Wd w l d).setRow (w.heap.size+i) c'=Wd w (l.set i (.cells c' t f)) d:=by
 have hi:i<l.length:=(List.getElem?_eq_some_iff.1 h).1
 have hv:l[i]=.cells c t f:=(List.getElem?_eq_some_iff.1 h).2
 unfold World.setRow Wd
 simp only[World.mk.injEq,and_true]
 apply Array.ext'
 simp only[Array.toList_modify,Array.toList_append]
 apply List.ext_getElem?
 intro j
 rw[List.getElem?_modify,List.getElem?_append,List.getElem?_append,List.getElem?_set]
 simp only[Array.length_toList]
 by_cases hj:j<w.heap.size
 ·have:¬w.heap.size+i=j:=by omega
  simp[hj,this]
 ·simp only[hj,if_false]
  by_cases hji:w.heap.size+i=j
  ·subst hji
   simp[hi,hv]
  ·have:¬i=j-w.heap.size:=by omega
   simp[this,hji]
theorem cv_oneCell{k:IntKind}{x:List Nat}:∀v∈(cv k x).toList,v.oneCell'=true:=by
 intro v hv
 simp only[cv,List.mem_map]at hv
 obtain⟨n,_,rfl⟩:=hv
 rfl
theorem spl_cv(k:IntKind)(s:List Nat)(o:Nat)(x:List Nat) :
  ((cv k s).toList.take o++(cv k x).toList++(cv k s).toList.drop (o+(cv k x).toList.length)).toArray=cv k (spl s o x):=by
 simp[cv,spl,List.map_take,List.map_drop]
@[go_sem] theorem stX_agg{P:Program}{T:TypeId}{n:Nat}{w:World}{l:List Obj}{d i o:Nat}{k:IntKind}{s x:List Nat}{t:TypeId}
  (h1:(sizeOf T).run P (Wd w l d)=.ok n (Wd w l d)) (h2:l[i]?=some (.cells (cv k s) t (0,0))) (hx:x.length=n) (h3:o+n≤s.length) :
  stX P T n (some (.cells (cv k s) t (0,0))) w l d i o (.agg (cv k x))=.ok () (Wd w (l.set i (.cells (cv k (spl s o x)) t (0,0))) d):=by
 have hr:=run_storeCells_at P (w.heap.size+i) o t (cv k x).toList 0 (cv k s) (Wd w l d) (by rw[Wd_at];exact h2) (by simp[cv];omega) cv_oneCell
 rw[Nat.add_zero,spl_cv,Wd_setRow _ _ _ _ _ _ _ _ h2]at hr
 simp[stX,stN,Instr.storeAt,Instr.sureAddr,storeVar,Value.cells,h1,hx,hr]
@[go_sem] theorem stX_one{P:Program}{T:TypeId}{w:World}{l:List Obj}{d i o:Nat}{k:IntKind}{s:List Nat}{x:Nat}{t:TypeId}
  (h1:(sizeOf T).run P (Wd w l d)=.ok 1 (Wd w l d)) (h2:l[i]?=some (.cells (cv k s) t (0,0))) (h3:o<s.length) :
  stX P T 1 (some (.cells (cv k s) t (0,0))) w l d i o (.int k (x:Int))=.ok () (Wd w (l.set i (.cells (cv k (spl s o [x])) t (0,0))) d):=by
 have hr:=run_storeCells_at P (w.heap.size+i) o t (cv k [x]).toList 0 (cv k s) (Wd w l d) (by rw[Wd_at];exact h2) (by simp[cv];omega) cv_oneCell
 rw[Nat.add_zero,spl_cv,Wd_setRow _ _ _ _ _ _ _ _ h2]at hr
 have e:(cv k [x]).toList=[.int k (x:Int)]:=rfl
 rw[e]at hr
 simp[stX,stN,Instr.storeAt,Instr.sureAddr,storeVar,Value.cells,h1,hr]
@[go_sem] theorem stX_onel{P:Program}{T:TypeId}{w:World}{l:List Obj}{d i o:Nat}{k:IntKind}{s:List Nat}{n:Nat}{t:TypeId}
  (h1:(sizeOf T).run P (Wd w l d)=.ok 1 (Wd w l d)) (h2:l[i]?=some (.cells (cv k s) t (0,0))) (h3:o<s.length) :
  stX P T 1 (some (.cells (cv k s) t (0,0))) w l d i o (.int k (no_index (OfNat.ofNat n)))=.ok () (Wd w (l.set i (.cells (cv k (spl s o [n])) t (0,0))) d):=stX_one h1 h2 h3
def rep(n:Nat):List Nat:=List.replicate n 0
@[simp] theorem rep_length(n:Nat):(rep n).length=n:=by simp[rep]
theorem rep_gi(n i:Nat):gi (rep n) i=0:=by simp[gi,rep,List.getD,List.getElem?_replicate];split <;> rfl
def zeroOf(P:Program)(T:TypeId):Value:=((P.info? T).bind (·.zero)).getD (.tuple #[])
theorem run_zeroOf{P:Program}{T:TypeId}{c:Array Value}(h:zeroOf P T=.agg c)(W:World):(zeroValue T).run P W=.ok (.agg c) W:=by
 unfold zeroOf at h
 cases hi:P.info? T with
 |none=>simp[hi]at h
 |some i =>
  cases hz:i.zero with
  |none=>simp[hi,hz]at h
  |some v =>
   simp[hi,hz]at h
   subst h
   simp[zeroValue,typeInfo,hi,hz]
def alN(T:TypeId):Sem Value:=Instr.alloc T true (.tuple #[])
@[go_sem ↓] theorem execOp_alloc(ρ:Operand→Value)(dst:Option Tmp)(T:TypeId)(ty:TypeId)(pos:String)(after:Array Edge)(guard:Option (Nat×Bool)) :
  execOp ρ { dst,op:=.alloc T,type:=ty,pos,after,guard }=(alN T >>= fun v=>pure (.value v)):=rfl
def alX(P:Program)(T:TypeId)(_z:Value)(w:World)(l:List Obj)(d:Nat):Result Value:=(alN T).run P (Wd w l d)
@[go_sem] theorem run_alN(P:Program)(T:TypeId)(w:World)(l:List Obj)(d:Nat):(alN T).run P (Wd w l d)=alX P T (zeroOf P T) w l d:=rfl
@[go_sem] theorem alX_agg{P:Program}{T:TypeId}{w:World}{l:List Obj}{d:Nat}{k:IntKind}{s:List Nat}(h:zeroOf P T=.agg (cv k s)) :
  alX P T (.agg (cv k s)) w l d=.ok (.pointer (some ⟨w.heap.size+l.length,0,none⟩)) (Wd w (l++[.cells (cv k s) T (0,0)]) d):=by
 simp[alX,alN,Instr.alloc,run_zeroOf h,newVar,newRow,Value.cells,Wd_size,Wd_alloc]
def ixN(T:TypeId)(x i:Value):Sem Value:=Instr.index T x i
@[go_sem ↓] theorem execOp_index(ρ:Operand→Value)(dst:Option Tmp)(T:TypeId)(x i:Operand)(ty:TypeId)(pos:String)(after:Array Edge)(guard:Option (Nat×Bool)) :
  execOp ρ { dst,op:=.index T x i,type:=ty,pos,after,guard }=(ixN T (ρ x) (ρ i) >>= fun v=>pure (.value v)):=rfl
@[go_sem] theorem ixN_cv{P:Program}{T:TypeId}{k ik:IntKind}{s:List Nat}{i:Nat}{W:World}(hu:P.underlying T=some (.array s.length (P.elem T)))
  (h1:(sizeOf (P.elem T)).run P W=.ok 1 W) (h2:(isAgg (P.elem T)).run P W=.ok false W) (hi:i<s.length) :
  (ixN T (.agg (cv k s)) (.int ik (i:Int))).run P W=.ok (.int k ((gi s i:Nat):Int)) W:=by
 have hg:=cv_get k s i hi
 have hp:(part (P.elem T) (cv k s) i).run P W=.ok (.int k ((gi s i:Nat):Int)) W:=by
  unfold part
  rw[Sem.run_bind,h2]
  show Sem.run P (match (cv k s)[i]? with | some v=>pure v | none=>stuck "part: no such cell") W=_
  rw[hg];rfl
 simp[ixN,Instr.index,asIntOf,run_underlying hu,hi,h1,hp]
@[go_sem] theorem ixN_cvl{P:Program}{T:TypeId}{k ik:IntKind}{s:List Nat}{n:Nat}{W:World}(hu:P.underlying T=some (.array s.length (P.elem T)))
  (h1:(sizeOf (P.elem T)).run P W=.ok 1 W) (h2:(isAgg (P.elem T)).run P W=.ok false W) (hi:n<s.length) :
  (ixN T (.agg (cv k s)) (.int ik (no_index (OfNat.ofNat n)))).run P W=.ok (.int k ((gi s n:Nat):Int)) W:=ixN_cv hu h1 h2 hi
theorem ret_cell{P:Program}{fn:Func}{R:Ending→World→Prop}{a:Act}{w:World}{l:List Obj}{d p i n:Nat}{T:TypeId}{k:IntKind}{s:List Nat}{t:TypeId}{f:Nat×Nat}
  (h:fn.results=#[.cell p T]) (hp:a.tmps.getD p undef=.pointer (some ⟨w.heap.size+i,0,none⟩)) (h1:aggSize P T=some n)
  (h2:l[i]?=some (.cells (cv k s) t f)) (hn:s.length=n) (hd:a.defers=[]) (hR:R (.returned (.agg (cv k s))) (Wd w l d)) :
  bodyPost P fn R .ret a (Wd w l d):=by
 refine⟨hd,.agg (cv k s),?_,hR⟩
 have hl:=ldX_agg (P:=P) (T:=T) (n:=n) (b:=w.heap.size+i) (o:=0) (W:=Wd w l d) (k:=k) (s:=s) (t:=t) (f:=f) h1 (by rw[blk_at];exact h2) (by omega)
 rw[List.drop_zero,List.take_of_length_le (by omega)]at hl
 have hl':(loadVar T ⟨w.heap.size+i,0,none⟩).run P (Wd w l d)=.ok (.agg (cv k s)) (Wd w l d):=by
  simpa [ldX,ldN,Instr.loadAt,Instr.sureAddr]using hl
 have hp':a.tmps[p]?.getD undef=.pointer (some ⟨w.heap.size+i,0,none⟩):=by simpa using hp
 simp[results,h,hp',asAddr,hl']
@[go_sem] theorem spl_full{s x:List Nat}(h:s.length=x.length):spl s 0 x=x:=by
 simp[spl,List.drop_of_length_le (l:=s) (i:=x.length) (by omega)]
end Go.Own.Jf

/- Strings, and slices of numbers in memory of the call's own: copy, append within the room, make, conversion. No condition. | Composite values built in place: one part of an aggregate. No condition. | append to a row of bytes of the call's own, whether it has room or grows. No condition but that the row is small. | Blocks of cells of whatever kinds: their laws to load, store, copy and append, over an old world with blocks behind it. No condition. | Slices of elements of whatever size, in rows of the call's own: append, whether it has room or grows. No condition but that the row is small. -/
import Derived.Test.YtlogjpmdfimgdaaGreatDoorZ02
import Derived.Laws.BytesArg
import Derived.Laws.CopyRow
import Derived.Laws.AppendOwn
import Derived.Laws.IdiomStrings
import Derived.Deep.RegionLaw
namespace Go.Own.Jf
open Go.RowKit
def bys(s:ByteArray):List Nat:=s.data.toList.map UInt8.toNat
def mkS(l:List Nat):ByteArray:=⟨(l.map UInt8.ofNat).toArray⟩
theorem bys_length(s:ByteArray):(bys s).length=s.size:=by simp only[bys,List.length_map,Array.length_toList];rfl
theorem mkS_bys(s:ByteArray):mkS (bys s)=s:=by
 cases s with | mk d=>simp[mkS,bys,Function.comp_def]
theorem mkS_size(l:List Nat):(mkS l).size=l.length:=by simp[mkS,ByteArray.size]
theorem bys_lt(s:ByteArray):∀n∈bys s,n<256:=by
 intro n hn
 simp only[bys,List.mem_map]at hn
 obtain⟨b,_,rfl⟩:=hn
 exact b.toNat_lt
theorem gi_bys_lt(s:ByteArray)(i:Nat):gi (bys s) i<256:=by
 unfold gi
 rw[List.getD_eq_getElem?_getD]
 cases h:(bys s)[i]? with
 |none=>decide
 |some n=>exact bys_lt s n (List.mem_of_getElem? h)
theorem bys_mkS(l:List Nat)(h:∀n∈l,n<256):bys (mkS l)=l:=by
 simp only[bys,mkS,List.map_map]
 conv=>rhs;rw[←List.map_id l]
 apply List.map_congr_left
 intro n hn
 have:=h n hn
 simp;omega
theorem bys_inj{s t:ByteArray}(h:bys s=bys t):s=t:=by rw[←mkS_bys s,h,mkS_bys]
theorem bys_extract(s:ByteArray)(a b:Nat):bys (s.extract a b)=((bys s).drop a).take (b-a):=by
 simp[bys,List.extract_eq_take_drop,List.map_take,List.map_drop]
theorem cells_bys(s:ByteArray):(s.data.map fun b=>Value.int .u8 b.toNat)=cv .u8 (bys s):=by
 apply Array.ext';simp[cv,bys]
def cpX(P:Program)(dT sT ty:TypeId)(_ob:Option Obj)(w:World)(l:List Obj)(d i o n c:Nat)(s:ByteArray):Result Value :=
 (Builtin.copy_ #[dT,sT] ty #[.slice (some ⟨w.heap.size+i,o,none⟩) n c,.string s]).run P (Wd w l d)
@[go_sem] theorem run_cp(P:Program)(dT sT ty:TypeId)(w:World)(l:List Obj)(d i o n c:Nat)(s:ByteArray) :
  (Builtin.copy_ #[dT,sT] ty #[.slice (some ⟨w.heap.size+i,o,none⟩) n c,.string s]).run P (Wd w l d)=cpX P dT sT ty l[i]? w l d i o n c s:=rfl
@[go_sem] theorem run_cp0(P:Program)(dT sT ty:TypeId)(w:World)(l:List Obj)(d o n c:Nat)(s:ByteArray) :
  (Builtin.copy_ #[dT,sT] ty #[.slice (some ⟨w.heap.size,o,none⟩) n c,.string s]).run P (Wd w l d)=cpX P dT sT ty l[0]? w l d 0 o n c s:=rfl
@[go_sem] theorem cpX_cv{P:Program}{dT sT ty:TypeId}{w:World}{l:List Obj}{d i o n c:Nat}{s:ByteArray}{S:List Nat}{t:TypeId}
  (hu:P.underlying dT=some (.slice (P.elem dT))) (h1:(sizeOf (P.elem dT)).run P (Wd w l d)=.ok 1 (Wd w l d)) (h2:l[i]?=some (.cells (cv .u8 S) t (0,0))) (hn:n≤s.size) (hfit:o+n≤S.length) :
  cpX P dT sT ty (some (.cells (cv .u8 S) t (0,0))) w l d i o n c s=.ok (.int .i64 (n:Int)) (Wd w (l.set i (.cells (cv .u8 (spl S o ((bys s).take n))) t (0,0))) d):=by
 have hx:(bys (s.extract 0 n)).length=n:=by rw[bys_length];simp;omega
 have hr:=run_storeCells_at P (w.heap.size+i) o t (cv .u8 (bys (s.extract 0 n))).toList 0 (cv .u8 S) (Wd w l d) (by rw[Wd_at];exact h2) (by simp[hx];omega) cv_oneCell
 rw[Nat.add_zero,spl_cv,Wd_setRow _ _ _ _ _ _ _ _ h2]at hr
 have hm:Nat.min s.size n=n:=Nat.min_eq_right hn
 have he:bys (s.extract 0 n)=(bys s).take n:=by rw[bys_extract];simp
 rw[he]at hr
 have hf:((s.extract 0 n).data.map fun b=>Value.int .u8 b.toNat)=cv .u8 ((bys s).take n):=by rw[cells_bys,he]
 have hf':(Builtin.firstCells 1 n (.string s)).run P (Wd w l d)=.ok (cv .u8 ((bys s).take n)) (Wd w l d):=by
  simp only[Builtin.firstCells,Sem.run_pure,hf]
 simp[cpX,Builtin.copy_,run_underlying hu,Builtin.lenOf,h1,hm,hf',hr,goInt]
@[go_sem] theorem ixN_agg{P:Program}{T:TypeId}{k ik:IntKind}{s:List Nat}{i:Nat}{W:World}(hu:P.underlying T=some (.array (P.arrayLen T) (P.elem T)))
  (h1:aggSize P (P.elem T)=some (P.cellsOf (P.elem T))) (hi:i<P.arrayLen T) :
  (ixN T (.agg (cv k s)) (.int ik (i:Int))).run P W=.ok (.agg (cv k ((s.drop (i*P.cellsOf (P.elem T))).take (P.cellsOf (P.elem T))))) W:=by
 obtain⟨ha,hs⟩:=isAgg_of h1 W
 simp[ixN,Instr.index,asIntOf,run_underlying hu,hi,hs,part,ha,cv_extract]
def mkX(P:Program)(T:TypeId)(_z:Value)(w:World)(l:List Obj)(d:Nat)(n c:Int):Result Value:=(Instr.makeSlice T (.int .i64 n) (.int .i64 c)).run P (Wd w l d)
@[go_sem] theorem run_mk(P:Program)(T:TypeId)(w:World)(l:List Obj)(d:Nat)(n c:Int) :
  (Instr.makeSlice T (.int .i64 n) (.int .i64 c)).run P (Wd w l d)=mkX P T (zeroOf P (P.elem T)) w l d n c:=rfl
theorem mkX_cv{P:Program}{T:TypeId}{w:World}{l:List Obj}{d n c:Nat}{k:IntKind}(hu:P.underlying T=some (.slice (P.elem T)))
  (h1:(P.info? (P.elem T)).map (fun i=>(i.zero,i.size,i.bytes))=some (some (.int k 0),1,1)) (hnc:n≤c) (hc:c≤140737488355328) :
  mkX P T (.int k 0) w l d (n:Int) (c:Int)=.ok (.slice (some ⟨w.heap.size+l.length,0,none⟩) n c) (Wd w (l++[.cells (cv k (rep c)) (P.elem T) (0,0)]) d):=by
 cases hi:P.info? (P.elem T)with
 |none=>simp[hi]at h1
 |some i =>
  simp[hi]at h1
  obtain⟨hz,hs,hb⟩:=h1
  have hwn:IntKind.i64.wrap (n:Int)=n:=IntWalk.i64_in _ (by omega)
  have hwc:IntKind.i64.wrap (c:Int)=c:=IntWalk.i64_in _ (by omega)
  have hrow:(Array.range c).map (fun _=>Value.int k 0)=cv k (rep c):=by
   apply Array.ext'
   simp[cv,rep,List.map_const',Array.toList_range]
  have hc0:¬(140737488355328:Int)*2<c:=by omega
  have e1:¬((c:Int)<n):=by omega
  have e2:¬((n:Int)<0):=by omega
  have e3:¬((c:Int)<0):=by omega
  have e5:¬((281474976710656:Int)<c):=by omega
  by_cases h0:c=0
  ·subst h0
   have hn0:n=0:=by omega
   subst hn0
   simp[mkX,Instr.makeSlice,run_underlying hu,asInt,asIntOf,typeInfo,hi,IntKind.wrap,IntKind.bits,sizeOf,newRow,cv,rep,Wd_size,Wd_alloc,Array.range_zero']
  ·simp[mkX,Instr.makeSlice,run_underlying hu,asInt,asIntOf,typeInfo,hi,hb,hwn,hwc,e1,e2,e3,e5,sizeOf,hs,h0,zeroValue,hz,Value.cells,newRow,Nat.mod_one,hrow,Wd_size,Wd_alloc]
attribute [go_sem] mkX_cv
@[go_sem] theorem mkX_cvl{P:Program}{T:TypeId}{w:World}{l:List Obj}{d n c:Nat}{k:IntKind}(hu:P.underlying T=some (.slice (P.elem T)))
  (h1:(P.info? (P.elem T)).map (fun i=>(i.zero,i.size,i.bytes))=some (some (.int k 0),1,1)) (hnc:n≤c) (hc:c≤140737488355328) :
  mkX P T (.int k 0) w l d (no_index (OfNat.ofNat n)) (no_index (OfNat.ofNat c))=.ok (.slice (some ⟨w.heap.size+l.length,0,none⟩) n c) (Wd w (l++[.cells (cv k (rep c)) (P.elem T) (0,0)]) d):=mkX_cv hu h1 hnc hc
def apN(ats:Array TypeId)(ty:TypeId)(args:Array Value):Sem Value:=Builtin.append_ ats ty args
@[go_sem ↓] theorem append_apN(ats:Array TypeId)(ty:TypeId)(args:Array Value):Builtin.append_ ats ty args=apN ats ty args:=rfl
def apX(P:Program)(dT sT ty:TypeId)(_ob _oc:Option Obj)(w:World)(l:List Obj)(d i o n c j o2 m c2:Nat):Result Value :=
 (apN #[dT,sT] ty #[.slice (some ⟨w.heap.size+i,o,none⟩) n c,.slice (some ⟨w.heap.size+j,o2,none⟩) m c2]).run P (Wd w l d)
@[go_sem] theorem run_ap(P:Program)(dT sT ty:TypeId)(w:World)(l:List Obj)(d i o n c j o2 m c2:Nat) :
  (apN #[dT,sT] ty #[.slice (some ⟨w.heap.size+i,o,none⟩) n c,.slice (some ⟨w.heap.size+j,o2,none⟩) m c2]).run P (Wd w l d)=apX P dT sT ty l[i]? l[j]? w l d i o n c j o2 m c2:=rfl
@[go_sem] theorem run_ap0(P:Program)(dT sT ty:TypeId)(w:World)(l:List Obj)(d o n c j o2 m c2:Nat) :
  (apN #[dT,sT] ty #[.slice (some ⟨w.heap.size,o,none⟩) n c,.slice (some ⟨w.heap.size+j,o2,none⟩) m c2]).run P (Wd w l d)=apX P dT sT ty l[0]? l[j]? w l d 0 o n c j o2 m c2:=rfl
theorem run_loadCells_cv{P:Program}{b o n:Nat}{W:World}{k:IntKind}{s:List Nat}{t:TypeId}{f:Nat×Nat}(h2:blk W b=some (.cells (cv k s) t f))(h3:o+n≤s.length) :
  (loadCells ⟨b,o,none⟩ n).run P W=.ok (cv k ((s.drop o).take n)) W:=by
 have hlen:(cv k ((s.drop o).take n)).toList.length=n:=by simp[cv];omega
 have:=run_loadCells_list (P:=P) W ⟨b,o,none⟩ (cv k ((s.drop o).take n)).toList (fun j v hv=>by
  have hadd:(⟨b,o,none⟩:Addr).add j=⟨b,o+j,none⟩:=by unfold Addr.add;split <;> simp_all
  rw[hadd]
  have hj:j<n:=by
   rcases Nat.lt_or_ge j n with h | h
   ·exact h
   ·rw[List.getElem?_eq_none (by omega)]at hv;cases hv
  simp only[World.cell?,show W.heap[b]?=_ from h2,Option.isSome_none,Bool.false_eq_true,if_false]
  rw[cv_get _ _ _ (by omega)]
  simp[cv,hj]at hv
  obtain⟨a,ha,rfl⟩:=hv
  simp[gi,List.getD,ha])
 rw[hlen]at this
 simpa using this
@[go_sem] theorem apX_cv{P:Program}{dT sT ty:TypeId}{w:World}{l:List Obj}{d i o n c j o2 m c2:Nat}{k:IntKind}{S X:List Nat}{t t2:TypeId}
  (hu:P.underlying dT=some (.slice (P.elem dT))) (h1:(sizeOf (P.elem dT)).run P (Wd w l d)=.ok 1 (Wd w l d)) (hsT:P.underlying sT=some (.slice (P.elem sT)))
  (h2:l[i]?=some (.cells (cv k S) t (0,0))) (h3:l[j]?=some (.cells (cv k X) t2 (0,0))) (hroom:n+m≤c) (hfit:o+(n+m)≤S.length) (hX:o2+m≤X.length) :
  apX P dT sT ty (some (.cells (cv k S) t (0,0))) (some (.cells (cv k X) t2 (0,0))) w l d i o n c j o2 m c2 =
   .ok (.slice (some ⟨w.heap.size+i,o,none⟩) (n+m) c) (Wd w (l.set i (.cells (cv k (spl S (o+n) ((X.drop o2).take m))) t (0,0))) d):=by
 have hl:=run_loadCells_cv (P:=P) (b:=w.heap.size+j) (o:=o2) (n:=m) (W:=Wd w l d) (k:=k) (s:=X) (t:=t2) (f:=(0,0)) (by rw[blk_at];exact h3) hX
 have hx:((X.drop o2).take m).length=m:=by simp;omega
 have hr:=run_storeCells_at P (w.heap.size+i) (o+n) t (cv k ((X.drop o2).take m)).toList 0 (cv k S) (Wd w l d) (by rw[Wd_at];exact h2) (by simp[hx];omega) cv_oneCell
 rw[Nat.add_zero,spl_cv,Wd_setRow _ _ _ _ _ _ _ _ h2]at hr
 have hadd:(⟨w.heap.size+i,o,none⟩:Addr).add n=⟨w.heap.size+i,o+n,none⟩:=by unfold Addr.add;split <;> simp_all
 simp only[apX,apN,Builtin.append_,List.getElem?_toArray,List.getElem?_cons_zero,List.getElem?_cons_succ]
 simp[run_underlying hu,run_underlying hsT,h1,Builtin.lenOf,hroom,Builtin.firstCells,hl,hadd,hr]
def cnX(P:Program)(sT dT:TypeId)(_ob:Option Obj)(w:World)(l:List Obj)(d i o n c:Nat):Result Value :=
 (convert sT dT (.slice (some ⟨w.heap.size+i,o,none⟩) n c)).run P (Wd w l d)
@[go_sem] theorem run_cn(P:Program)(sT dT:TypeId)(w:World)(l:List Obj)(d i o n c:Nat) :
  (convert sT dT (.slice (some ⟨w.heap.size+i,o,none⟩) n c)).run P (Wd w l d)=cnX P sT dT l[i]? w l d i o n c:=rfl
@[go_sem] theorem run_cn0(P:Program)(sT dT:TypeId)(w:World)(l:List Obj)(d o n c:Nat) :
  (convert sT dT (.slice (some ⟨w.heap.size,o,none⟩) n c)).run P (Wd w l d)=cnX P sT dT l[0]? w l d 0 o n c:=rfl
@[go_sem] theorem cnX_cv{P:Program}{sT dT:TypeId}{w:World}{l:List Obj}{d i o n c:Nat}{S:List Nat}{t:TypeId}{f:Nat×Nat}
  (hu:P.underlying sT=some (.slice (P.elem sT))) (he:P.underlying (P.elem sT)=some (.int .u8)) (hd:P.underlying dT=some .string)
  (h2:l[i]?=some (.cells (cv .u8 S) t f)) (hX:o+n≤S.length) :
  cnX P sT dT (some (.cells (cv .u8 S) t f)) w l d i o n c=.ok (.string (mkS ((S.drop o).take n))) (Wd w l d):=by
 have hl:=run_loadCells_cv (P:=P) (b:=w.heap.size+i) (o:=o) (n:=n) (W:=Wd w l d) (k:=.u8) (s:=S) (t:=t) (f:=f) (by rw[blk_at];exact h2) hX
 have hl':(loadCells ⟨w.heap.size+i,o,none⟩ n).run P (Wd w l d)=.ok ((((S.drop o).take n).map fun (x:Nat)=>((x:Nat):Int)).map (Value.int .u8)).toArray (Wd w l d):=by
  rw[hl];simp[cv,Function.comp_def]
 unfold cnX
 rw[run_convert_bytes_string (Wd w l d) sT dT _ _ n c hu he hd]
 rw[run_bytesToString (Wd w l d) _ n c _ hl',foldl_push_bytes]
 simp[mkS,Function.comp_def]
end Go.Own.Jf
namespace Go.Own.Jf
open Go.RowKit
def buN(T:TypeId)(parts:Array (Nat×Value)):Sem Value:=Instr.build T parts
@[go_sem ↓] theorem execOp_build(ρ:Operand→Value)(dst:Option Tmp)(T:TypeId)(parts:Array (Nat×Operand))(ty:TypeId)(pos:String)(after:Array Edge)(guard:Option (Nat×Bool)) :
  execOp ρ { dst,op:=.build T parts,type:=ty,pos,after,guard }=(buN T (parts.map fun (i,x)=>(i,ρ x)) >>= fun v=>pure (.value v)):=rfl
theorem foldl_set(off:Nat):∀(xs:List Value) (j:Nat) (cs:Array Value),off+j+xs.length≤cs.size →
  ((xs.zipIdx j).foldl (fun cs (c,j)=>cs.setIfInBounds (off+j) c) cs)=(cs.toList.take (off+j)++xs++cs.toList.drop (off+j+xs.length)).toArray
 | [],j,cs,_=>by simp
 |v :: rest,j,cs,h=>by
  have ih:=foldl_set off rest (j+1) (cs.setIfInBounds (off+j) v) (by simp at h ⊢;omega)
  have e:=list_seg_step cs.toList (off+j) v rest (by simp at h ⊢;omega)
  simp only[List.zipIdx_cons,List.foldl_cons]
  rw[ih]
  congr 1
  simpa [Array.toList_setIfInBounds,Nat.add_assoc]using e
@[go_sem] theorem at_mid{α:Type}(g r:List α)(a:α):(g++a :: r)[g.length]?=some a:=by simp
@[go_sem] theorem set_mid{α:Type}(g r:List α)(a b:α):(g++a :: r).set g.length b=g++b :: r:=by
 rw[List.set_append_right _ _ (Nat.le_refl _)];simp
def B8(s:List Nat):Prop:=∀n∈s,n<256
theorem B8.gi{s:List Nat}(h:B8 s)(i:Nat):Own.Jf.gi s i<256:=by
 unfold Own.Jf.gi
 rw[List.getD_eq_getElem?_getD]
 cases hi:s[i]? with
 |none=>decide
 |some n=>exact h n (List.mem_of_getElem? hi)
theorem B8.take{s:List Nat}(h:B8 s)(n:Nat):B8 (s.take n):=fun x hx=>h x (List.mem_of_mem_take hx)
theorem B8.drop{s:List Nat}(h:B8 s)(n:Nat):B8 (s.drop n):=fun x hx=>h x (List.mem_of_mem_drop hx)
theorem B8.append{s t:List Nat}(h:B8 s)(k:B8 t):B8 (s++t):=fun x hx=>(List.mem_append.1 hx).elim (h x) (k x)
theorem B8.spl{s x:List Nat}(h:B8 s)(k:B8 x)(o:Nat):B8 (Own.Jf.spl s o x):=((h.take _).append k).append (h.drop _)
theorem B8.rep(n:Nat):B8 (Own.Jf.rep n):=fun x hx=>by
 have:=(List.mem_replicate.1 hx).2;omega
theorem B8.bys(s:ByteArray):B8 (Own.Jf.bys s):=bys_lt s
theorem B8.map{α:Type}{f:α→Nat}(h:∀a,f a<256)(l:List α):B8 (l.map f):=fun x hx=>by
 obtain⟨a,_,rfl⟩:=List.mem_map.1 hx
 exact h a
theorem B8.flat{α:Type}{f:α→List Nat}{l:List α}(h:∀a∈l,B8 (f a)):B8 (l.flatMap f):=fun x hx=>by
 obtain⟨a,ha,hx⟩:=List.mem_flatMap.1 hx
 exact h a ha x hx
theorem B8.four{a b c d:Nat}(ha:a<256)(hb:b<256)(hc:c<256)(hd:d<256):B8 [a,b,c,d]:=fun x hx=>by
 simp at hx;omega
end Go.Own.Jf
namespace Go.Own.Jf
open Go.RowKit
def okf(f:Nat×Nat)(n:Nat):Prop:=∀j,j<n→¬(f.1≤j∧j<f.2)
def Has(w:World)(l:List Obj)(v:Value)(s:List Nat):Prop :=
 ∃i S t f,v=.slice (some ⟨w.heap.size+i,0,none⟩) s.length S.length∧l[i]?=some (.cells (cv .u8 S) t f)∧okf f S.length∧S.take s.length=s∧s.length≤S.length
end Go.Own.Jf
namespace Go.Own.Jf
open Go.RowKit
theorem loadCells_mix{P:Program}{b o n:Nat}{W:World}{c:Array Value}{t:TypeId}{f:Nat×Nat}(h2:blk W b=some (.cells c t f))(h3:o+n≤c.size) :
  (loadCells ⟨b,o,none⟩ n).run P W=.ok (c.extract o (o+n)) W:=by
 have hlen:(c.extract o (o+n)).toList.length=n:=by simp;omega
 have:=run_loadCells_list (P:=P) W ⟨b,o,none⟩ (c.extract o (o+n)).toList (fun j v hv=>by
  have hadd:(⟨b,o,none⟩:Addr).add j=⟨b,o+j,none⟩:=by unfold Addr.add;split <;> simp_all
  rw[hadd]
  simp only[World.cell?,show W.heap[b]?=_ from h2,Option.isSome_none,Bool.false_eq_true,if_false]
  rw[←hv]
  have hj:j<n:=by
   rcases Nat.lt_or_ge j n with h | h
   ·exact h
   ·rw[List.getElem?_eq_none (by omega)]at hv;cases hv
  rw[Array.getElem?_toList,Array.getElem?_extract]
  rw[if_pos (by omega)])
 rw[hlen,Array.toArray_toList]at this
 exact this
theorem ldX_mix{P:Program}{T:TypeId}{n b o:Nat}{W:World}{c:Array Value}{t:TypeId}{f:Nat×Nat}
  (h1:aggSize P T=some n) (h2:blk W b=some (.cells c t f)) (h3:o+n≤c.size) :
  ldX P T (some n) (some (.cells c t f)) b o W=.ok (.agg (c.extract o (o+n))) W:=by
 obtain⟨ha,hs⟩:=isAgg_of h1 W
 have hl:=loadCells_mix (P:=P) h2 h3
 simp[ldX,ldN,Instr.loadAt,Instr.sureAddr,loadVar,ha,hs,hl]
theorem ldX_mix1{P:Program}{T:TypeId}{b o:Nat}{W:World}{c:Array Value}{t:TypeId}{f:Nat×Nat}{v:Value}(ha:(isAgg T).run P W=.ok false W)
  (h2:blk W b=some (.cells c t f)) (h3:c[o]?=some v) :
  ldX P T none (some (.cells c t f)) b o W=.ok v W:=by
 have hc:W.cell? ⟨b,o,none⟩=some v:=by
  simp only[World.cell?,show W.heap[b]?=_ from h2,Option.isSome_none,Bool.false_eq_true,if_false]
  exact h3
 simp[ldX,ldN,Instr.loadAt,Instr.sureAddr,loadVar,ha,hc]
def splA(c:Array Value)(o:Nat)(x:List Value):Array Value:=(c.toList.take o++x++c.toList.drop (o+x.length)).toArray
theorem stX_mix{P:Program}{T:TypeId}{n:Nat}{w:World}{l:List Obj}{d i o:Nat}{c x:Array Value}{t:TypeId}
  (h1:(sizeOf T).run P (Wd w l d)=.ok n (Wd w l d)) (h2:l[i]?=some (.cells c t (0,0))) (hx:x.size=n) (h3:o+n≤c.size) (h4:∀v∈x.toList,v.oneCell'=true) :
  stX P T n (some (.cells c t (0,0))) w l d i o (.agg x)=.ok () (Wd w (l.set i (.cells (splA c o x.toList) t (0,0))) d):=by
 have hr:=run_storeCells_at P (w.heap.size+i) o t x.toList 0 c (Wd w l d) (by rw[Wd_at];exact h2) (by simp;omega) h4
 rw[Nat.add_zero,Wd_setRow _ _ _ _ _ _ _ _ h2]at hr
 simp[stX,stN,Instr.storeAt,Instr.sureAddr,storeVar,Value.cells,h1,hx,splA,hr]
theorem stX_mix1{P:Program}{T:TypeId}{w:World}{l:List Obj}{d i o:Nat}{c:Array Value}{v:Value}{t:TypeId}
  (h1:(sizeOf T).run P (Wd w l d)=.ok 1 (Wd w l d)) (hv:v.oneCell'=true) (h2:l[i]?=some (.cells c t (0,0))) (h3:o<c.size) :
  stX P T 1 (some (.cells c t (0,0))) w l d i o v=.ok () (Wd w (l.set i (.cells (splA c o [v]) t (0,0))) d):=by
 have hc:v.cells=#[v]:=by cases v <;> first | rfl | simp[Value.oneCell']at hv
 have hr:=run_storeCells_at P (w.heap.size+i) o t [v] 0 c (Wd w l d) (by rw[Wd_at];exact h2) (by simp;omega) (by simpa using hv)
 rw[Nat.add_zero,Wd_setRow _ _ _ _ _ _ _ _ h2]at hr
 simp[stX,stN,Instr.storeAt,Instr.sureAddr,storeVar,hc,h1,splA,hr]
theorem ret_mix{P:Program}{fn:Func}{R:Ending→World→Prop}{a:Act}{w:World}{l:List Obj}{d p i n:Nat}{T:TypeId}{c:Array Value}{t:TypeId}{f:Nat×Nat}
  (h:fn.results=#[.cell p T]) (hp:a.tmps.getD p undef=.pointer (some ⟨w.heap.size+i,0,none⟩)) (h1:aggSize P T=some n)
  (h2:l[i]?=some (.cells c t f)) (hn:c.size=n) (hd:a.defers=[]) (hR:R (.returned (.agg c)) (Wd w l d)) :
  bodyPost P fn R .ret a (Wd w l d):=by
 refine⟨hd,.agg c,?_,hR⟩
 have hl:=ldX_mix (P:=P) (T:=T) (n:=n) (b:=w.heap.size+i) (o:=0) (W:=Wd w l d) (c:=c) (t:=t) (f:=f) h1 (by rw[blk_at];exact h2) (by omega)
 rw[Nat.zero_add,←hn,Array.extract_size,hn]at hl
 have hl':(loadVar T ⟨w.heap.size+i,0,none⟩).run P (Wd w l d)=.ok (.agg c) (Wd w l d):=by
  simpa [ldX,ldN,Instr.loadAt,Instr.sureAddr]using hl
 have hp':a.tmps[p]?.getD undef=.pointer (some ⟨w.heap.size+i,0,none⟩):=by simpa using hp
 simp[results,h,hp',asAddr,hl']
theorem ret_mix2{P:Program}{fn:Func}{R:Ending→World→Prop}{a:Act}{w:World}{l:List Obj}{d p q i n:Nat}{T:TypeId}{c:Array Value}{t:TypeId}{f:Nat×Nat}{v:Value}
  (h:fn.results=#[.cell p T,.tmp q]) (hp:a.tmps.getD p undef=.pointer (some ⟨w.heap.size+i,0,none⟩)) (hq:a.tmps.getD q undef=v) (h1:aggSize P T=some n)
  (h2:l[i]?=some (.cells c t f)) (hn:c.size=n) (hd:a.defers=[]) (hR:R (.returned (.tuple #[.agg c,v])) (Wd w l d)) :
  bodyPost P fn R .ret a (Wd w l d):=by
 refine⟨hd,.tuple #[.agg c,v],?_,hR⟩
 have hl:=ldX_mix (P:=P) (T:=T) (n:=n) (b:=w.heap.size+i) (o:=0) (W:=Wd w l d) (c:=c) (t:=t) (f:=f) h1 (by rw[blk_at];exact h2) (by omega)
 rw[Nat.zero_add,←hn,Array.extract_size,hn]at hl
 have hl':(loadVar T ⟨w.heap.size+i,0,none⟩).run P (Wd w l d)=.ok (.agg c) (Wd w l d):=by
  simpa [ldX,ldN,Instr.loadAt,Instr.sureAddr]using hl
 have hp':a.tmps[p]?.getD undef=.pointer (some ⟨w.heap.size+i,0,none⟩):=by simpa using hp
 have hq':a.tmps[q]?.getD undef=v:=by simpa using hq
 simp[results,h,hp',hq',asAddr,hl']
end Go.Own.Jf
namespace Go.Own.Jf
open Go.RowKit
def RowV(A:Nat→Prop)(w:World)(l:List Obj)(sz n:Nat)(v:Value)(C:List Value):Prop :=
 (v=.slice none 0 0∧n=0∧C=[]) ∨
 ∃i c X t,A i∧v=.slice (some ⟨w.heap.size+i,0,none⟩) n c∧l[i]?=some (.cells (List.toArray X) t (0,0))∧X.length=c*sz∧n≤c∧X.take (n*sz)=C
def NotAt(w:World)(v:Value)(p:Nat):Prop:=∀n c,v≠.slice (some ⟨w.heap.size+p,0,none⟩) n c
theorem RowV.length{A:Nat→Prop}{w:World}{l:List Obj}{sz n:Nat}{v:Value}{C:List Value}(h:RowV A w l sz n v C):C.length=n*sz:=by
 rcases h with⟨_,rfl,rfl⟩ | ⟨i,c,X,t,_,_,_,hX,hn,rfl⟩
 ·simp
 ·have:=Nat.mul_le_mul_right sz hn
  simp;omega
theorem RowV.mono{A B:Nat→Prop}{w:World}{l l':List Obj}{sz n:Nat}{v:Value}{C:List Value}(h:RowV A w l sz n v C)(hl:∀p,A p→p<l.length→B p∧l'[p]?=l[p]?):RowV B w l' sz n v C:=by
 rcases h with h | ⟨i,c,X,t,hA,hv,hi,h⟩
 ·exact .inl h
 ·have:=hl i hA (List.getElem?_eq_some_iff.1 hi).1
  exact .inr ⟨i,c,X,t,this.1,hv,by rw[this.2];exact hi,h⟩
theorem RowV.more{A:Nat→Prop}{w:World}{l:List Obj}{sz n:Nat}{v:Value}{C:List Value}(h:RowV A w l sz n v C)(g:List Obj):RowV A w (l++g) sz n v C :=
 h.mono fun _ hp hlt=>⟨hp,List.getElem?_append_left hlt⟩
structure RowT(P:Program)(T E:TypeId)(sz:Nat):Prop where
 slice:P.underlying T=some (.slice E)
 info:∃i z,P.info? E=some i∧i.zero=some z∧i.size=sz∧z.cells.size=sz∧i.bytes≤1048576
theorem zeroCells_size(z:Array Value)(n:Nat):(Builtin.zeroCells z n).size=n*z.size:=by simp[Builtin.zeroCells]
theorem row_cells{w:World}{l:List Obj}{d i k:Nat}{X:List Value}{t:TypeId}{f:Nat×Nat}(hi:l[i]?=some (.cells X.toArray t f)) :
  ∀j v,(X.take k)[j]?=some v→(Wd w l d).cell? ((⟨w.heap.size+i,0,none⟩:Addr).add j)=some v:=by
 intro j v hv
 have hadd:(⟨w.heap.size+i,0,none⟩:Addr).add j=⟨w.heap.size+i,j,none⟩:=by unfold Addr.add;split <;> simp_all
 rw[hadd]
 have hb:(Wd w l d).heap[w.heap.size+i]?=some (.cells X.toArray t f):=by rw[Wd_at];exact hi
 simp only[World.cell?,hb,Option.isSome_none,Bool.false_eq_true,if_false]
 have hj:j<k:=by
  rcases Nat.lt_or_ge j k with h | h
  ·exact h
  ·rw[List.getElem?_eq_none (by simp;omega)]at hv;cases hv
 rw[List.getElem?_take_of_lt hj]at hv
 simpa using hv
theorem append_row{P:Program}{T E:TypeId}{sz:Nat}(hR:RowT P T E sz){A B:Nat→Prop}{w:World}{l:List Obj}{d n m:Nat}{v x:Value}{C N:List Value}(hA:∀p,l.length≤p→A p)(h:RowV A w l sz n v C)(hx:RowV B w l sz m x N)
  (ty:TypeId) (h1:∀u∈N,u.oneCell'=true) (hs:n+m≤1048576) :
  ∃v' l' d',(apN #[T,T] ty #[v,x]).run P (Wd w l d)=.ok v' (Wd w l' d')∧RowV A w l' sz (n+m) v' (C++N)∧l.length≤l'.length∧(∀p,p<l.length→NotAt w v p→l'[p]?=l[p]?):=by
 obtain⟨hT,ti,z,hi,hz,hsz,hzc,hb⟩:=hR
 have hbb:(n+m)*ti.bytes≤140737488355328:=by
  have:=Nat.mul_le_mul hs hb
  omega
 have hNl:=hx.length
 have hfc:(Builtin.firstCells ti.size m x).run P (Wd w l d)=.ok N.toArray (Wd w l d)∧(Builtin.lenOf x).run P (Wd w l d)=.ok m (Wd w l d):=by
  rcases hx with⟨rfl,rfl,rfl⟩ | ⟨j,c2,Y,t2,hBj,rfl,hj,hY,hm,rfl⟩
  ·exact⟨by simp[Builtin.firstCells],rfl⟩
  ·exact⟨run_firstCells_some (P:=P) (Wd w l d) ti.size m ⟨w.heap.size+j,0,none⟩ m c2 _ (by rw[hNl,hsz]) (row_cells hj),rfl⟩
 obtain⟨hfc,hln⟩:=hfc
 unfold apN
 rcases h with⟨rfl,rfl,rfl⟩ | ⟨i,c,X,t,hAi,rfl,hl,hX,hnc,rfl⟩
 ·by_cases hm0:m=0
  ·subst hm0
   obtain rfl:N=[]:=List.length_eq_zero_iff.1 (by simpa using hNl)
   refine⟨.slice none 0 0,l,d,?_,.inl ⟨rfl,by omega,rfl⟩,Nat.le_refl _,fun _ _ _=>rfl⟩
   simp[Builtin.append_,run_underlying hT,sizeOf,typeInfo,hi,hln,hfc]
  ·rcases hx with⟨_,e,_⟩ | ⟨j,c2,Y,t2,hBj,rfl,hj,hY,hm,rfl⟩
   ·exact absurd e hm0
   have hr:=run_append_nil (P:=P) (Wd w l d) T ty E ti z hT hi hz ⟨w.heap.size+j,0,none⟩ m c2 _ (by rw[hNl,hsz]) (row_cells hj) (by omega) (by omega) (by rw[Nat.zero_add]at hbb;omega)
   rw[Wd_drew,Wd_alloc,Wd_size]at hr
   have hge:=grownCap_ge (Wd w l d) m 0 E
   refine⟨_,_,_,hr,.inr ⟨l.length,grownCap (Wd w l d) m 0 E,Y.take (m*sz)++(Builtin.zeroCells z.cells (grownCap (Wd w l d) m 0 E-m)).toList,E,hA _ (Nat.le_refl _),by rw[Nat.zero_add],?_,?_,by omega,?_⟩,by simp,fun p hp _=>List.getElem?_append_left hp⟩
   ·rw[List.getElem?_concat_length]
    congr 2
    apply Array.ext';simp
   ·rw[List.length_append,hNl,Array.length_toList,zeroCells_size,hzc,←Nat.add_mul]
    congr 1;omega
   ·rw[Nat.zero_add,List.nil_append,List.take_append_of_le_length (by omega),List.take_of_length_le (by omega)]
 ·have hnsz:n*sz≤X.length:=by rw[hX];exact Nat.mul_le_mul_right _ hnc
  by_cases hroom:n+m≤c
  ·have hfit:n*sz+N.length≤X.length:=by rw[hNl,hX,←Nat.add_mul];exact Nat.mul_le_mul_right _ hroom
   have hr:=run_storeCells_at P (w.heap.size+i) (n*sz) t N 0 X.toArray (Wd w l d) (by rw[Wd_at];exact hl) (by simp;omega) h1
   rw[Nat.add_zero,Wd_setRow _ _ _ _ _ _ _ _ hl]at hr
   have hadd:(⟨w.heap.size+i,0,none⟩:Addr).add (n*sz)=⟨w.heap.size+i,n*sz,none⟩:=by unfold Addr.add;split <;> simp_all
   have hi':=(List.getElem?_eq_some_iff.1 hl).1
   refine⟨.slice (some ⟨w.heap.size+i,0,none⟩) (n+m) c,l.set i (.cells (List.toArray (X.take (n*sz)++N++X.drop (n*sz+N.length))) t (0,0)),d,?_,.inr ⟨i,c,X.take (n*sz)++N++X.drop (n*sz+N.length),t,hAi,rfl,by simp[hi'],?_,hroom,?_⟩,by simp,?_⟩
   ·rw[hsz]at hfc
    have hr':=hr
    simp only[List.append_assoc]at hr'
    simp[Builtin.append_,run_underlying hT,sizeOf,typeInfo,hi,hsz,hln,hroom,hfc,hadd,hr']
   ·simp;omega
   ·rw[List.take_append_of_le_length (by simp[Nat.add_mul];omega),List.take_of_length_le (by simp[Nat.add_mul];omega)]
   ·intro p hp hv
    have hne:i≠p:=fun e=>by subst e;exact hv _ _ rfl
    rw[List.getElem?_set_ne hne]
  ·have hm0:m≠0:=by omega
   rcases hx with⟨_,e,_⟩ | ⟨j,c2,Y,t2,hBj,rfl,hj,hY,hm,rfl⟩
   ·exact absurd e hm0
   have hr:=run_append_grow (P:=P) (Wd w l d) T ty E ti z hT hi hz ⟨w.heap.size+i,0,none⟩ n c (X.take (n*sz)) (by rw[hsz];simp;omega) (row_cells hl) ⟨w.heap.size+j,0,none⟩ m c2 _ (by rw[hNl,hsz]) (row_cells hj) (by omega) (by omega)
    (growslice_fits (by omega) hbb)
   rw[Wd_drew,Wd_alloc,Wd_size]at hr
   have hge:=grownCap_ge (Wd w l d) (n+m) c E
   refine⟨_,_,_,hr,.inr ⟨l.length,grownCap (Wd w l d) (n+m) c E,X.take (n*sz)++Y.take (m*sz)++(Builtin.zeroCells z.cells (grownCap (Wd w l d) (n+m) c E-(n+m))).toList,E,hA _ (Nat.le_refl _),rfl,?_,?_,by omega,?_⟩,by simp,fun p hp _=>List.getElem?_append_left hp⟩
   ·rw[List.getElem?_concat_length]
    congr 2
    apply Array.ext';simp
   ·have h3:(X.take (n*sz)).length=n*sz:=by simp;omega
    rw[List.length_append,List.length_append,hNl,h3,Array.length_toList,zeroCells_size,hzc,←Nat.add_mul,←Nat.add_mul]
    congr 1;omega
   ·have h3:(X.take (n*sz)).length=n*sz:=by simp;omega
    rw[List.take_append_of_le_length (by rw[List.length_append,h3,hNl,Nat.add_mul];omega),List.take_of_length_le (by rw[List.length_append,h3,hNl,Nat.add_mul];omega)]
theorem wpList_row{P:Program}{ops:Array Oper}{rest:List Oper}{o:Oper}{a:Act}{Q:Exit→Act→World→Prop}{w:World}{l:List Obj}{d:Nat}(hgd:o.guard=none)(x y:Operand)(T E:TypeId){sz:Nat}
  (ho:o.op=.call { callee:=.builtin .append,args:=#[x,y],argTypes:=#[T,T] }) (hR:RowT P T E sz) {A B:Nat→Prop} (hA:∀p,l.length≤p→A p) (v:Value) (n:Nat) (C:List Value) (hv:a.eval x=v) (h:RowV A w l sz n v C)
  (u:Value) (m:Nat) (N:List Value) (hu:a.eval y=u) (hx:RowV B w l sz m u N) (h1:∀u∈N,u.oneCell'=true) (hs:n+m≤1048576)
  (hK:∀v' l' d',Hid (RowV A w l' sz (n+m) v' (C++N))→Hid (l.length≤l'.length)→Hid (∀p,p<l.length→NotAt w v p→l'[p]?=l[p]?)→wpList P ops Q rest (a.put o.dst v') (Wd w l' d')):wpList P ops Q (o :: rest) a (Wd w l d):=by
 refine wpList_plain hgd fun K hk=>?_
 obtain⟨v',l',d',hr,h1,h2,h3⟩:=append_row (d:=d) hR hA h hx o.type h1 hs
 have hr':(Builtin.append_ #[T,T] o.type #[v,u]).run P (Wd w l d)=.ok v' (Wd w l' d'):=hr
 unfold Oper.wp
 simp[execOp,ho,resolve,invoke,builtin,hv,hu,hr',Result.andThen]
 exact hk _ _ (hK v' l' d' h1 h2 h3)
theorem step_row{P:Program}{ops:Array Oper}{o:Oper}{a:Act}{K:Act→World→Prop}{Q:Exit→Act→World→Prop}{E0:Prop}{w:World}{l:List Obj}{d:Nat}(hgd:o.guard=none)(x y:Operand)(T E:TypeId){sz:Nat}
  (ho:o.op=.call { callee:=.builtin .append,args:=#[x,y],argTypes:=#[T,T] }) (hR:RowT P T E sz) {A B:Nat→Prop} (hA:∀p,l.length≤p→A p) (v:Value) (n:Nat) (C:List Value) (hv:a.eval x=v) (h:RowV A w l sz n v C)
  (u:Value) (m:Nat) (N:List Value) (hu:a.eval y=u) (hx:RowV B w l sz m u N) (h1:∀u∈N,u.oneCell'=true) (hs:n+m≤1048576)
  (hK:∀v' l' d',Hid (RowV A w l' sz (n+m) v' (C++N))→Hid (l.length≤l'.length)→Hid (∀p,p<l.length→NotAt w v p→l'[p]?=l[p]?)→K (a.put o.dst v') (Wd w l' d')) :
  if Region.wanted o (yielded ops a.tmps)=true then Oper.wp P o a (Wd w l d) K Q else E0:=by
 have hw:Region.wanted o (yielded ops a.tmps)=true:=by simp[Region.wanted,hgd]
 rw[if_pos hw]
 obtain⟨v',l',d',hr,h1,h2,h3⟩:=append_row (d:=d) hR hA h hx o.type h1 hs
 have hr':(Builtin.append_ #[T,T] o.type #[v,u]).run P (Wd w l d)=.ok v' (Wd w l' d'):=hr
 unfold Oper.wp
 simp[execOp,ho,resolve,invoke,builtin,hv,hu,hr',Result.andThen]
 exact hK v' l' d' h1 h2 h3
theorem set_same{l:List Obj}{m:Nat}{X:Obj}(h:(l[m]?).isSome=true):(l.set m X)[m]?=some X:=by
 have:m<l.length:=by
  rcases Nat.lt_or_ge m l.length with h' | h'
  ·exact h'
  ·rw[List.getElem?_eq_none h']at h;cases h
 simp[this]
theorem app_left{l g:List Obj}{m:Nat}(h:(l[m]?).isSome=true):(l++g)[m]?=l[m]?:=by
 have:m<l.length:=by
  rcases Nat.lt_or_ge m l.length with h' | h'
  ·exact h'
  ·rw[List.getElem?_eq_none h']at h;cases h
 exact List.getElem?_append_left this
theorem set_left{l g:List Obj}{m:Nat}{X:Obj}(h:(l[m]?).isSome=true):(l++g).set m X=l.set m X++g:=by
 have:m<l.length:=by
  rcases Nat.lt_or_ge m l.length with h' | h'
  ·exact h'
  ·rw[List.getElem?_eq_none h']at h;cases h
 exact List.set_append_left _ _ this
theorem app_some{l g:List Obj}{m:Nat}{X:Obj}(h:l[m]?=some X):(l++g)[m]?=some X:=by rw[app_left (by rw[h];rfl),h]
theorem set_some{l:List Obj}{m:Nat}{X Y:Obj}(h:l[m]?=some Y):(l.set m X)[m]?=some X:=set_same (by rw[h];rfl)
theorem set_other{l:List Obj}{m k:Nat}{X Y:Obj}(hne:m≠k)(h:l[k]?=some Y):(l.set m X)[k]?=some Y:=by rw[List.getElem?_set_ne hne,h]
theorem at_next{l:List Obj}{A B:Obj}{n:Nat}(h:l.length=n):(l++[A,B])[n+1]?=some B:=by subst h;rw[List.getElem?_append_right (by omega)];simp
theorem at_mid'{g r:List Obj}{a:Obj}{n:Nat}(h:g.length=n):(g++a :: r)[n]?=some a:=by subst h;simp
theorem set_mid'{g r:List Obj}{a b:Obj}{n:Nat}(h:g.length=n):(g++a :: r).set n b=g++b :: r:=by
 subst h
 rw[List.set_append_right _ _ (Nat.le_refl _)];simp
end Go.Own.Jf

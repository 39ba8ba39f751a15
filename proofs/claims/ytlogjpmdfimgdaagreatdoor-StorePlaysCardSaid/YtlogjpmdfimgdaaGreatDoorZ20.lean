/- What a journal's values are in memory: a half, a journal, a record, a step: the laws to read, write and make them. No condition. | A record's small calls: number, highFirst, sectors: by contract. No condition but the sizes. | A record's bytes as they are laid: by contract. No condition but the text's length. | Drawn regions, of the own kit's worlds. | Operations run by themselves, out of their operands' values, at this program. No condition. | What a range over a function wants: what holds of a region outside of a round holds inside; marks. No condition. | The sectors of a text, from the last one to the first, as the iterator hands them out: its contract. No condition but the size. -/
import Derived.Test.YtlogjpmdfimgdaaGreatDoorZ18
import Derived.Test.YtlogjpmdfimgdaaGreatDoorZ19
import Derived.Laws.Concat
import Derived.Test.YtlogjpmdfimgdaaGreatDoorX06
import Derived.RangeFuncNested
import Derived.RangeFuncBound
import Derived.RangeFuncCalls
import Derived.RangeFuncLeaves
import Derived.RangeFuncFrom
import Derived.Shelf.Abstract
import Derived.Shelf.RegionOpen
import Derived.OrdersIn
import Derived.TacticsIn
import Derived.OwnWalkIn
import Derived.TacticsInMore
import Derived.LoopNIn
import Derived.LoopIn
namespace Go.Own.Jf
open Go Go.RowKit
def hcl(dv:Value)(a n g:Nat)(vt:Value)(u:Nat):Array Value:=#[dv,.int .i64 (a:Int),.int .i64 (n:Int),.int .u64 (g:Int),vt,.int .i64 (u:Int)]
def jcl(dv:Value)(a n g:Nat)(vt:Value)(u:Nat)(o:Bool):Array Value:=#[dv,.int .i64 (a:Int),.int .i64 (n:Int),.int .u64 (g:Int),vt,.int .i64 (u:Int),.bool o]
def rcl(g n:Nat)(t:ByteArray):Array Value:=#[.int .u64 (g:Int),.int .u64 (n:Int),.string t]
theorem hcl_size(dv:Value)(a n g:Nat)(vt:Value)(u:Nat):(hcl dv a n g vt u).size=6:=rfl
theorem jcl_size(dv:Value)(a n g:Nat)(vt:Value)(u:Nat)(o:Bool):(jcl dv a n g vt u o).size=7:=rfl
theorem rcl_size(g n:Nat)(t:ByteArray):(rcl g n t).size=3:=rfl
theorem hcl_one{dv:Value}{a n g:Nat}{vt:Value}{u:Nat}(h1:dv.oneCell'=true)(h2:vt.oneCell'=true):∀v∈(hcl dv a n g vt u).toList,v.oneCell'=true:=by
 intro v hv
 simp[hcl]at hv
 rcases hv with rfl | rfl | rfl | rfl | rfl | rfl <;> first | assumption | rfl
theorem rcl_one{g n:Nat}{t:ByteArray}:∀v∈(rcl g n t).toList,v.oneCell'=true:=by
 intro v hv
 simp[rcl]at hv
 rcases hv with rfl | rfl | rfl <;> rfl
theorem cells_one{v:Value}(h:v.oneCell'=true):v.cells=#[v]:=by
 cases v <;> first | rfl | (simp[Value.oneCell']at h)
def bxN(T:TypeId)(v:Value):Sem Value:=Instr.box T v
@[go_sem ↓] theorem execOp_box(ρ:Operand→Value)(dst:Option Tmp)(T:TypeId)(x:Operand)(ty:TypeId)(pos:String)(after:Array Edge)(guard:Option (Nat×Bool)) :
  execOp ρ { dst,op:=.box T x,type:=ty,pos,after,guard }=(bxN T (ρ x) >>= fun v=>pure (.value v)):=rfl
@[go_sem] theorem bxA{P:Program}{T:TypeId}{c:Array Value}{w:World}{l:List Obj}{d:Nat} :
  (bxN T (.agg c)).run P (Wd w l d)=.ok (.pointer (some ⟨w.heap.size+l.length,0,none⟩)) (Wd w (l++[.cells c T (0,0)]) d):=by
 simp[bxN,Instr.box,newVar,newRow,Value.cells,Wd_size,Wd_alloc]
@[go_sem] theorem bxS{P:Program}{T:TypeId}{s:ByteArray}{w:World}{l:List Obj}{d:Nat} :
  (bxN T (.string s)).run P (Wd w l d)=.ok (.pointer (some ⟨w.heap.size+l.length,0,none⟩)) (Wd w (l++[.cells #[.string s] T (0,0)]) d):=by
 simp[bxN,Instr.box,newVar,newRow,Value.cells,Wd_size,Wd_alloc]
@[go_sem] theorem bxI{P:Program}{T:TypeId}{k:IntKind}{x:Int}{w:World}{l:List Obj}{d:Nat} :
  (bxN T (.int k x)).run P (Wd w l d)=.ok (.pointer (some ⟨w.heap.size+l.length,0,none⟩)) (Wd w (l++[.cells #[.int k x] T (0,0)]) d):=by
 simp[bxN,Instr.box,newVar,newRow,Value.cells,Wd_size,Wd_alloc]
theorem run_zeroOf'{P:Program}{T:TypeId}{c:Value}(h:(P.info? T).bind (·.zero)=some c)(W:World):(zeroValue T).run P W=.ok c W:=by
 cases hi:P.info? T with
 |none=>simp[hi]at h
 |some i =>
  cases hz:i.zero with
  |none=>simp[hi,hz]at h
  |some v =>
   simp[hi,hz]at h
   subst h
   simp[zeroValue,typeInfo,hi,hz]
theorem alXA{P:Program}{T:TypeId}{w:World}{l:List Obj}{d:Nat}{c:Array Value}(h:zeroOf P T=.agg c) :
  alX P T (.agg c) w l d=.ok (.pointer (some ⟨w.heap.size+l.length,0,none⟩)) (Wd w (l++[.cells c T (0,0)]) d):=by
 simp[alX,alN,Instr.alloc,run_zeroOf h,newVar,newRow,Value.cells,Wd_size,Wd_alloc]
theorem alXS{P:Program}{T:TypeId}{w:World}{l:List Obj}{d:Nat}(h:(P.info? T).bind (·.zero)=some (.slice none 0 0)) :
  alX P T (.slice none 0 0) w l d=.ok (.pointer (some ⟨w.heap.size+l.length,0,none⟩)) (Wd w (l++[.cells #[.slice none 0 0] T (0,0)]) d):=by
 simp[alX,alN,Instr.alloc,run_zeroOf' h,newVar,newRow,Value.cells,Wd_size,Wd_alloc]
section
variable{P:Program}{T:TypeId}{b:Nat}{W:World}{dv vt:Value}{a n g u:Nat}{o:Bool}{t:ByteArray}{ty:TypeId}{f:Nat×Nat}
theorem ldH0(ha:(isAgg T).run P W=.ok false W)(h2:blk W b=some (.cells (hcl dv a n g vt u) ty f)):ldX P T none (some (.cells (hcl dv a n g vt u) ty f)) b 0 W=.ok (dv) W:=ldX_mix1 ha h2 rfl
theorem ldH1(ha:(isAgg T).run P W=.ok false W)(h2:blk W b=some (.cells (hcl dv a n g vt u) ty f)):ldX P T none (some (.cells (hcl dv a n g vt u) ty f)) b 1 W=.ok (.int .i64 (a:Int)) W:=ldX_mix1 ha h2 rfl
theorem ldH2(ha:(isAgg T).run P W=.ok false W)(h2:blk W b=some (.cells (hcl dv a n g vt u) ty f)):ldX P T none (some (.cells (hcl dv a n g vt u) ty f)) b 2 W=.ok (.int .i64 (n:Int)) W:=ldX_mix1 ha h2 rfl
theorem ldH3(ha:(isAgg T).run P W=.ok false W)(h2:blk W b=some (.cells (hcl dv a n g vt u) ty f)):ldX P T none (some (.cells (hcl dv a n g vt u) ty f)) b 3 W=.ok (.int .u64 (g:Int)) W:=ldX_mix1 ha h2 rfl
theorem ldJ3(ha:(isAgg T).run P W=.ok false W)(h2:blk W b=some (.cells (jcl dv a n g vt u o) ty f)):ldX P T none (some (.cells (jcl dv a n g vt u o) ty f)) b 3 W=.ok (.int .u64 (g:Int)) W:=ldX_mix1 ha h2 rfl
theorem ldH4(ha:(isAgg T).run P W=.ok false W)(h2:blk W b=some (.cells (hcl dv a n g vt u) ty f)):ldX P T none (some (.cells (hcl dv a n g vt u) ty f)) b 4 W=.ok (vt) W:=ldX_mix1 ha h2 rfl
theorem ldJ4(ha:(isAgg T).run P W=.ok false W)(h2:blk W b=some (.cells (jcl dv a n g vt u o) ty f)):ldX P T none (some (.cells (jcl dv a n g vt u o) ty f)) b 4 W=.ok (vt) W:=ldX_mix1 ha h2 rfl
theorem ldH5(ha:(isAgg T).run P W=.ok false W)(h2:blk W b=some (.cells (hcl dv a n g vt u) ty f)):ldX P T none (some (.cells (hcl dv a n g vt u) ty f)) b 5 W=.ok (.int .i64 (u:Int)) W:=ldX_mix1 ha h2 rfl
theorem ldJ6(ha:(isAgg T).run P W=.ok false W)(h2:blk W b=some (.cells (jcl dv a n g vt u o) ty f)):ldX P T none (some (.cells (jcl dv a n g vt u o) ty f)) b 6 W=.ok (.bool o) W:=ldX_mix1 ha h2 rfl
theorem ldR0(ha:(isAgg T).run P W=.ok false W)(h2:blk W b=some (.cells (rcl g n t) ty f)):ldX P T none (some (.cells (rcl g n t) ty f)) b 0 W=.ok (.int .u64 (g:Int)) W:=ldX_mix1 ha h2 rfl
theorem ldR1(ha:(isAgg T).run P W=.ok false W)(h2:blk W b=some (.cells (rcl g n t) ty f)):ldX P T none (some (.cells (rcl g n t) ty f)) b 1 W=.ok (.int .u64 (n:Int)) W:=ldX_mix1 ha h2 rfl
theorem ldR2(ha:(isAgg T).run P W=.ok false W)(h2:blk W b=some (.cells (rcl g n t) ty f)):ldX P T none (some (.cells (rcl g n t) ty f)) b 2 W=.ok (.string t) W:=ldX_mix1 ha h2 rfl
theorem ldHA(h1:aggSize P T=some 6)(h2:blk W b=some (.cells (hcl dv a n g vt u) ty f)):ldX P T (some 6) (some (.cells (hcl dv a n g vt u) ty f)) b 0 W=.ok (.agg (hcl dv a n g vt u)) W:=by
 rw[ldX_mix h1 h2 (by rw[hcl_size];omega)];rfl
theorem ldJA(h1:aggSize P T=some 6)(h2:blk W b=some (.cells (jcl dv a n g vt u o) ty f)):ldX P T (some 6) (some (.cells (jcl dv a n g vt u o) ty f)) b 0 W=.ok (.agg (hcl dv a n g vt u)) W:=by
 rw[ldX_mix h1 h2 (by rw[jcl_size];omega)];rfl
theorem ldRA(h1:aggSize P T=some 3)(h2:blk W b=some (.cells (rcl g n t) ty f)):ldX P T (some 3) (some (.cells (rcl g n t) ty f)) b 0 W=.ok (.agg (rcl g n t)) W:=by
 rw[ldX_mix h1 h2 (by rw[rcl_size];omega)];rfl
variable{w:World}{l:List Obj}{d i:Nat}{dv' vt':Value}{a' n' g' u':Nat}{o':Bool}{t':ByteArray}
theorem stH3(h1:(sizeOf T).run P (Wd w l d)=.ok 1 (Wd w l d))(h2:l[i]?=some (.cells (hcl dv a n g vt u) ty (0,0))) :
  stX P T 1 (some (.cells (hcl dv a n g vt u) ty (0,0))) w l d i 3 (.int .u64 (g':Int))=.ok () (Wd w (l.set i (.cells (hcl dv a n g' vt u) ty (0,0))) d):=by
 rw[stX_mix1 h1 rfl h2 (by rw[hcl_size];omega)];rfl
theorem stH5(h1:(sizeOf T).run P (Wd w l d)=.ok 1 (Wd w l d))(h2:l[i]?=some (.cells (hcl dv a n g vt u) ty (0,0))) :
  stX P T 1 (some (.cells (hcl dv a n g vt u) ty (0,0))) w l d i 5 (.int .i64 (u':Int))=.ok () (Wd w (l.set i (.cells (hcl dv a n g vt u') ty (0,0))) d):=by
 rw[stX_mix1 h1 rfl h2 (by rw[hcl_size];omega)];rfl
theorem stH4(hv:vt'.oneCell'=true)(h1:(sizeOf T).run P (Wd w l d)=.ok 1 (Wd w l d))(h2:l[i]?=some (.cells (hcl dv a n g vt u) ty (0,0))) :
  stX P T 1 (some (.cells (hcl dv a n g vt u) ty (0,0))) w l d i 4 (vt')=.ok () (Wd w (l.set i (.cells (hcl dv a n g vt' u) ty (0,0))) d):=by
 rw[stX_mix1 h1 hv h2 (by rw[hcl_size];omega)];rfl
theorem stJ6(h1:(sizeOf T).run P (Wd w l d)=.ok 1 (Wd w l d))(h2:l[i]?=some (.cells (jcl dv a n g vt u o) ty (0,0))) :
  stX P T 1 (some (.cells (jcl dv a n g vt u o) ty (0,0))) w l d i 6 (.bool o')=.ok () (Wd w (l.set i (.cells (jcl dv a n g vt u o') ty (0,0))) d):=by
 rw[stX_mix1 h1 rfl h2 (by rw[jcl_size];omega)];rfl
theorem stHA(hd:dv'.oneCell'=true)(hv:vt'.oneCell'=true)(h1:(sizeOf T).run P (Wd w l d)=.ok 6 (Wd w l d))(h2:l[i]?=some (.cells (hcl dv a n g vt u) ty (0,0))) :
  stX P T 6 (some (.cells (hcl dv a n g vt u) ty (0,0))) w l d i 0 (.agg (hcl dv' a' n' g' vt' u'))=.ok () (Wd w (l.set i (.cells (hcl dv' a' n' g' vt' u') ty (0,0))) d):=by
 rw[stX_mix h1 h2 rfl (by rw[hcl_size];omega) (hcl_one hd hv)];rfl
theorem stJA(hd:dv'.oneCell'=true)(hv:vt'.oneCell'=true)(h1:(sizeOf T).run P (Wd w l d)=.ok 6 (Wd w l d))(h2:l[i]?=some (.cells (jcl dv a n g vt u o) ty (0,0))) :
  stX P T 6 (some (.cells (jcl dv a n g vt u o) ty (0,0))) w l d i 0 (.agg (hcl dv' a' n' g' vt' u'))=.ok () (Wd w (l.set i (.cells (jcl dv' a' n' g' vt' u' o) ty (0,0))) d):=by
 rw[stX_mix h1 h2 rfl (by rw[jcl_size];omega) (hcl_one hd hv)];rfl
theorem stRA(h1:(sizeOf T).run P (Wd w l d)=.ok 3 (Wd w l d))(h2:l[i]?=some (.cells (rcl g n t) ty (0,0))) :
  stX P T 3 (some (.cells (rcl g n t) ty (0,0))) w l d i 0 (.agg (rcl g' n' t'))=.ok () (Wd w (l.set i (.cells (rcl g' n' t') ty (0,0))) d):=by
 rw[stX_mix h1 h2 rfl (by rw[rcl_size];omega) rcl_one];rfl
theorem stO{v v':Value}(hv:v'.oneCell'=true)(h1:(sizeOf T).run P (Wd w l d)=.ok 1 (Wd w l d))(h2:l[i]?=some (.cells #[v] ty (0,0))) :
  stX P T 1 (some (.cells #[v] ty (0,0))) w l d i 0 v'=.ok () (Wd w (l.set i (.cells #[v'] ty (0,0))) d):=by
 rw[stX_mix1 h1 hv h2 (by simp)];rfl
end
section
variable{P:Program}{T E:TypeId}{z:Value}(hT:P.underlying T=some (.slice E))(hs:∀W,(sizeOf E).run P W=.ok 1 W)(hz:(P.info? E).bind (·.zero)=some z)(hzc:z.cells=#[z])(w:World)(l:List Obj)(d:Nat)
include hT hs hz hzc
theorem bsV1{v:Value}(hv:v.oneCell'=true):(Go.Proofs.YtlogjpmdfimgdaaGreatDoor.Jf.bsN T 1 #[(0,v)]).run P (Wd w l d)=.ok (.slice (some ⟨w.heap.size+l.length,0,none⟩) 1 1) (Wd w (l++[.cells #[v] E (0,0)]) d):=by
 have hc:=cells_one hv
 have hr:Array.range 1=#[0]:=by
  apply Array.ext';rw[Array.toList_range];rfl
 unfold Go.Proofs.YtlogjpmdfimgdaaGreatDoor.Jf.bsN Instr.buildSlice
 simp[run_underlying hT,hs,hr,run_zeroOf' hz,hzc,hc,Instr.fill,newRow,Wd_size,Wd_alloc]
theorem bsV2{v v2:Value}(hv:v.oneCell'=true)(hv2:v2.oneCell'=true):(Go.Proofs.YtlogjpmdfimgdaaGreatDoor.Jf.bsN T 2 #[(0,v),(1,v2)]).run P (Wd w l d)=.ok (.slice (some ⟨w.heap.size+l.length,0,none⟩) 2 2) (Wd w (l++[.cells #[v,v2] E (0,0)]) d):=by
 have hc:=cells_one hv
 have hc2:=cells_one hv2
 have hr:Array.range 2=#[0,1]:=by
  apply Array.ext';rw[Array.toList_range];rfl
 unfold Go.Proofs.YtlogjpmdfimgdaaGreatDoor.Jf.bsN Instr.buildSlice
 simp[run_underlying hT,hs,hr,run_zeroOf' hz,hzc,hc,hc2,Instr.fill,newRow,Wd_size,Wd_alloc]
theorem bsV3{v v2 v3:Value}(hv:v.oneCell'=true)(hv2:v2.oneCell'=true)(hv3:v3.oneCell'=true):(Go.Proofs.YtlogjpmdfimgdaaGreatDoor.Jf.bsN T 3 #[(0,v),(1,v2),(2,v3)]).run P (Wd w l d)=.ok (.slice (some ⟨w.heap.size+l.length,0,none⟩) 3 3) (Wd w (l++[.cells #[v,v2,v3] E (0,0)]) d):=by
 have hc:=cells_one hv
 have hc2:=cells_one hv2
 have hc3:=cells_one hv3
 have hr:Array.range 3=#[0,1,2]:=by
  apply Array.ext';rw[Array.toList_range];rfl
 unfold Go.Proofs.YtlogjpmdfimgdaaGreatDoor.Jf.bsN Instr.buildSlice
 simp[run_underlying hT,hs,hr,run_zeroOf' hz,hzc,hc,hc2,hc3,Instr.fill,newRow,Wd_size,Wd_alloc]
end
end Go.Own.Jf
namespace Go.Proofs.YtlogjpmdfimgdaaGreatDoor.Jf
open Go.RowKit Go.Own.Jf
theorem agj9:aggSize Tryz.prog 9=none:=by kernel_rfl
theorem csj9:Tryz.prog.cellsOf 9=1:=by kernel_rfl
theorem szj9(w:World):(sizeOf 9).run Tryz.prog w=.ok 1 w:=by kernel_rfl
theorem isaj9(w:World):(isAgg 9).run Tryz.prog w=.ok false w:=by kernel_rfl
theorem agj25:aggSize Tryz.prog 25=none:=by kernel_rfl
theorem csj25:Tryz.prog.cellsOf 25=1:=by kernel_rfl
theorem szj25(w:World):(sizeOf 25).run Tryz.prog w=.ok 1 w:=by kernel_rfl
theorem isaj25(w:World):(isAgg 25).run Tryz.prog w=.ok false w:=by kernel_rfl
theorem agj32:aggSize Tryz.prog 29=none:=by kernel_rfl
theorem csj32:Tryz.prog.cellsOf 29=1:=by kernel_rfl
theorem szj32(w:World):(sizeOf 29).run Tryz.prog w=.ok 1 w:=by kernel_rfl
theorem isaj32(w:World):(isAgg 29).run Tryz.prog w=.ok false w:=by kernel_rfl
theorem agj38:aggSize Tryz.prog 39=none:=by kernel_rfl
theorem csj38:Tryz.prog.cellsOf 39=1:=by kernel_rfl
theorem szj38(w:World):(sizeOf 39).run Tryz.prog w=.ok 1 w:=by kernel_rfl
theorem isaj38(w:World):(isAgg 39).run Tryz.prog w=.ok false w:=by kernel_rfl
theorem agj54:aggSize Tryz.prog 140=none:=by kernel_rfl
theorem csj54:Tryz.prog.cellsOf 140=1:=by kernel_rfl
theorem szj54(w:World):(sizeOf 140).run Tryz.prog w=.ok 1 w:=by kernel_rfl
theorem isaj54(w:World):(isAgg 140).run Tryz.prog w=.ok false w:=by kernel_rfl
theorem agj78:aggSize Tryz.prog 129=none:=by kernel_rfl
theorem csj78:Tryz.prog.cellsOf 129=1:=by kernel_rfl
theorem szj78(w:World):(sizeOf 129).run Tryz.prog w=.ok 1 w:=by kernel_rfl
theorem isaj78(w:World):(isAgg 129).run Tryz.prog w=.ok false w:=by kernel_rfl
theorem agj80:aggSize Tryz.prog 131=none:=by kernel_rfl
theorem csj80:Tryz.prog.cellsOf 131=1:=by kernel_rfl
theorem szj80(w:World):(sizeOf 131).run Tryz.prog w=.ok 1 w:=by kernel_rfl
theorem isaj80(w:World):(isAgg 131).run Tryz.prog w=.ok false w:=by kernel_rfl
theorem agj61:aggSize Tryz.prog 107=some 6:=by kernel_rfl
theorem csj61:Tryz.prog.cellsOf 107=6:=by kernel_rfl
theorem szj61(w:World):(sizeOf 107).run Tryz.prog w=.ok 6 w:=by kernel_rfl
theorem agj64:aggSize Tryz.prog 110=some 7:=by kernel_rfl
theorem csj64:Tryz.prog.cellsOf 110=7:=by kernel_rfl
theorem szj64(w:World):(sizeOf 110).run Tryz.prog w=.ok 7 w:=by kernel_rfl
theorem agj88:aggSize Tryz.prog 145=some 3:=by kernel_rfl
theorem csj88:Tryz.prog.cellsOf 145=3:=by kernel_rfl
theorem szj88(w:World):(sizeOf 145).run Tryz.prog w=.ok 3 w:=by kernel_rfl
theorem zj61:zeroOf Tryz.prog 107=.agg (hcl (.pointer none) 0 0 0 (.slice none 0 0) 0):=by kernel_rfl
theorem zj64:zeroOf Tryz.prog 110=.agg (jcl (.pointer none) 0 0 0 (.slice none 0 0) 0 false):=by kernel_rfl
theorem zj88:zeroOf Tryz.prog 145=.agg (rcl 0 0 .empty):=by kernel_rfl
theorem zj100:zeroOf Tryz.prog 177=.agg #[.pointer none,.slice none 0 0]:=by kernel_rfl
theorem zj78:zeroOf Tryz.prog 129=.slice none 0 0:=by kernel_rfl
theorem alj78{w:World}{l:List Obj}{d:Nat}:alX Tryz.prog 129 (.slice none 0 0) w l d=.ok (.pointer (some ⟨w.heap.size+l.length,0,none⟩)) (Wd w (l++[.cells #[.slice none 0 0] 129 (0,0)]) d):=alXS (by kernel_rfl)
theorem buj61(p:Option Addr)(a n:Nat)(W:World):(buN 107 #[(0,.pointer p),(1,.int .i64 (a:Int)),(2,.int .i64 (n:Int))]).run Tryz.prog W=.ok (.agg (hcl (.pointer p) a n 0 (.slice none 0 0) 0)) W:=by kernel_rfl
theorem buj61b(p:Option Addr)(n:Nat)(W:World):(buN 107 #[(0,.pointer p),(2,.int .i64 (n:Int))]).run Tryz.prog W=.ok (.agg (hcl (.pointer p) 0 n 0 (.slice none 0 0) 0)) W:=by kernel_rfl
theorem buj64(p q:Option Addr)(a n g x c u:Nat)(W:World):(buN 110 #[(0,.agg (hcl (.pointer p) a n g (.slice q x c) u))]).run Tryz.prog W=.ok (.agg (jcl (.pointer p) a n g (.slice q x c) u false)) W:=by kernel_rfl
theorem buj88(g n:Nat)(t:ByteArray)(W:World):(buN 145 #[(0,.int .u64 (g:Int)),(1,.int .u64 (n:Int)),(2,.string t)]).run Tryz.prog W=.ok (.agg (rcl g n t)) W:=by kernel_rfl
theorem buj88z(W:World):(buN 145 #[]).run Tryz.prog W=.ok (.agg (rcl 0 0 .empty)) W:=by kernel_rfl
theorem bsj32{v:Value}(hv:v.oneCell'=true)(w:World)(l:List Obj)(d:Nat):(bsN 29 1 #[(0,v)]).run Tryz.prog (Wd w l d)=.ok (.slice (some ⟨w.heap.size+l.length,0,none⟩) 1 1) (Wd w (l++[.cells #[v] 9 (0,0)]) d):=bsV1 Tryz.underlying29 szj9 (z:=.string .empty) (by kernel_rfl) rfl w l d hv
theorem bsj78{v:Value}(hv:v.oneCell'=true)(w:World)(l:List Obj)(d:Nat):(bsN 129 1 #[(0,v)]).run Tryz.prog (Wd w l d)=.ok (.slice (some ⟨w.heap.size+l.length,0,none⟩) 1 1) (Wd w (l++[.cells #[v] 131 (0,0)]) d):=bsV1 Tryz.underlying129 szj80 (z:=.nilFunc) (by kernel_rfl) rfl w l d hv
theorem bsj782{v v2:Value}(hv:v.oneCell'=true)(hv2:v2.oneCell'=true)(w:World)(l:List Obj)(d:Nat):(bsN 129 2 #[(0,v),(1,v2)]).run Tryz.prog (Wd w l d)=.ok (.slice (some ⟨w.heap.size+l.length,0,none⟩) 2 2) (Wd w (l++[.cells #[v,v2] 131 (0,0)]) d):=bsV2 Tryz.underlying129 szj80 (z:=.nilFunc) (by kernel_rfl) rfl w l d hv hv2
theorem bsj84{v:Value}(hv:v.oneCell'=true)(w:World)(l:List Obj)(d:Nat):(bsN 160 1 #[(0,v)]).run Tryz.prog (Wd w l d)=.ok (.slice (some ⟨w.heap.size+l.length,0,none⟩) 1 1) (Wd w (l++[.cells #[v] 129 (0,0)]) d):=bsV1 Tryz.underlying160 szj78 (z:=.slice none 0 0) (by kernel_rfl) rfl w l d hv
theorem bsj842{v v2:Value}(hv:v.oneCell'=true)(hv2:v2.oneCell'=true)(w:World)(l:List Obj)(d:Nat):(bsN 160 2 #[(0,v),(1,v2)]).run Tryz.prog (Wd w l d)=.ok (.slice (some ⟨w.heap.size+l.length,0,none⟩) 2 2) (Wd w (l++[.cells #[v,v2] 129 (0,0)]) d):=bsV2 Tryz.underlying160 szj78 (z:=.slice none 0 0) (by kernel_rfl) rfl w l d hv hv2
theorem bsj843{v v2 v3:Value}(hv:v.oneCell'=true)(hv2:v2.oneCell'=true)(hv3:v3.oneCell'=true)(w:World)(l:List Obj)(d:Nat):(bsN 160 3 #[(0,v),(1,v2),(2,v3)]).run Tryz.prog (Wd w l d)=.ok (.slice (some ⟨w.heap.size+l.length,0,none⟩) 3 3) (Wd w (l++[.cells #[v,v2,v3] 129 (0,0)]) d):=bsV3 Tryz.underlying160 szj78 (z:=.slice none 0 0) (by kernel_rfl) rfl w l d hv hv2 hv3
theorem rowT_of{P:Program}{T E:TypeId}{sz:Nat}(hT:P.underlying T=some (.slice E))(h:(P.info? E).map (fun i=>(i.zero.map fun z=>z.cells.size,i.size,decide (i.bytes≤1048576)))=some (some sz,sz,true)):RowT P T E sz:=⟨hT,by
 cases hi:P.info? E with
 |none=>rw[hi]at h;cases h
 |some i =>
  rw[hi]at h
  cases hz:i.zero with
  |none=>simp[hz]at h
  |some z =>
   simp[hz]at h
   exact⟨i,z,rfl,hz,h.2.1,h.1,h.2.2⟩⟩
theorem rt32:RowT Tryz.prog 29 9 1:=rowT_of Tryz.underlying29 (by kernel_rfl)
theorem rt78:RowT Tryz.prog 129 131 1:=rowT_of Tryz.underlying129 (by kernel_rfl)
theorem rt84:RowT Tryz.prog 160 129 1:=rowT_of Tryz.underlying160 (by kernel_rfl)
end Go.Proofs.YtlogjpmdfimgdaaGreatDoor.Jf
namespace Go.Proofs.YtlogjpmdfimgdaaGreatDoor.Jf
open Go.RowKit Go.Own.Jf
attribute [-go_sem] Sm.execOp_bs
attribute [local go_sem] Sm.ixS
set_option maxRecDepth 100000 in
theorem sectors_any(k:Nat)(hk:k≤1099511627776)(w:World) :
  Calls Tryz.prog 81 #[.int .i64 (k:Int)] w fun e w'=>e=.returned (.int .i64 ((secs k:Nat):Int))∧w'=w:=by
 have h1:((50:Int)+k+64-1)/64=((secs k:Nat):Int):=by unfold secs;omega
 have H1:=Lib.hid h1
 clear h1
 go_enter Tryz.func81,Tryz.ntmps81
 go_wp2
 go_ret
 exact⟨by rw[←H1.out];rfl,rfl⟩
theorem val_lt(s:List Nat)(h:B8 s):val s<256 ^ s.length:=by
 have aux:∀(s:List Nat) (a m:Nat),B8 s→a<m→s.foldl (fun n b=>n*256+b) a<m*256 ^ s.length:=by
  intro s
  induction s with
  |nil=>intro a m _ h;simpa using h
  |cons b r ih =>
   intro a m h8 h
   have hb:=h8 b (by simp)
   have:=ih (a*256+b) (m*256) (fun x hx=>h8 x (by simp[hx])) (by omega)
   simp only[List.foldl_cons,List.length_cons,Nat.pow_succ]
   rw[show m*(256 ^ r.length*256)=m*256*256 ^ r.length by rw[Nat.mul_comm (256 ^ r.length),Nat.mul_assoc]]
   exact this
 have:=aux s 0 1 h (by decide)
 rw[Nat.one_mul]at this
 exact this
theorem or_byte(v b:Nat)(hv:v<72057594037927936)(hb:b<256):or64 (shl64 v 8) b=v*256+b:=by
 unfold or64 shl64
 rw[Nat.mod_eq_of_lt (by omega:v*2 ^ 8<_)]
 have h:=Nat.shiftLeft_add_eq_or_of_lt (show b<2 ^ 8 from hb) v
 rw[Nat.shiftLeft_eq]at h
 rw[←h];omega
set_option maxRecDepth 100000 in
set_option maxHeartbeats 1000000 in
theorem number_any(s:ByteArray)(hs:s.size≤8)(w:World)(l:List Obj)(d:Nat) :
  Calls Tryz.prog 98 #[.string s] (Wd w l d) fun e w'=>e=.returned (.int .u64 ((val (bys s):Nat):Int))∧∃d',w'=Wd w l d':=by
 go_enter Tryz.func98,Tryz.ntmps98
 go_wp2
 go_loopw [3,4,7] (fun n c i wr=>∃(k d:Nat),k≤s.size∧i=.int .i64 k∧n=.int .u64 ((val ((bys s).take k):Nat):Int)∧wr=Wd w l d) (fun _ _ i _=>s.size-(intOf i).toNat)
 case atStart=>exact⟨0,_,by omega,rfl,rfl,rfl⟩
 case round =>
  obtain⟨k,d,hk,rfl,rfl,rfl⟩:=hrel
  by_cases hlt:k<s.size
  ·have hki:(k:Int)<s.size:=by omega
   have h8:=gi_bys_lt s k
   have hst:val ((bys s).take (k+1))=val ((bys s).take k)*256+gi (bys s) k:=by
    rw[List.take_add_one,List.getElem?_eq_getElem (by rw[bys_length];exact hlt),Option.toList_some,val_snoc]
    simp[gi,List.getD,bys_length,hlt]
   have hb:=val_lt ((bys s).take k) ((B8.bys s).take _)
   have hp:(256:Nat) ^ ((bys s).take k).length≤256 ^ 7:=Nat.pow_le_pow_right (by decide) (by rw[List.length_take,bys_length];omega)
   obtain⟨v,hv⟩:∃v,val ((bys s).take k)=v:=⟨_,rfl⟩
   rw[hv]at hst hb ⊢
   obtain⟨b,hb'⟩:∃b,gi (bys s) k=b:=⟨_,rfl⟩
   have hv56:v<72057594037927936:=by omega
   have HST:=Lib.hid hst
   have HIX:=Lib.hid hb'
   have HO:=Lib.hid (or_byte v b hv56 (by omega))
   clear hst hb hp hv
   go_wp2
   go_roundw
   case rel=>exact⟨k+1,d,by omega,by go_num,by rw[HST.out,HIX.out,HO.out],rfl⟩
   case measure=>simp[intOf];omega
  ·obtain rfl:k=s.size:=by omega
   have HA:Hid ((bys s).take s.size=bys s):=Lib.hid (List.take_of_length_le (by rw[bys_length];exact Nat.le_refl _))
   go_wp2
   go_ret
   exact⟨by rw[HA.out];rfl,d,rfl⟩
def hb(n long:Nat)(i:Nat):Nat:=n/2 ^ (8*(long-1-i))%256
def bt(n p:Nat):Nat:=shr64 n p%256
theorem w8h(n p:Nat):IntKind.u8.wrap ((shr64 n p:Nat):Int)=((bt n p:Nat):Int):=wrap8 _
theorem hb_end(n long:Nat):fin1 (hb n long) long (rep long)=be long n:=by rw[fin1_end (by rw[rep_length];exact Nat.le_refl _)];rfl
attribute [local go_sem] w8h
set_option maxRecDepth 100000 in
set_option maxHeartbeats 1000000 in
theorem high_any(n long:Nat)(hl:long≤8)(h0:1≤long)(w:World)(l:List Obj)(d:Nat) :
  Calls Tryz.prog 121 #[.int .u64 (n:Int),.int .i64 (long:Int)] (Wd w l d) fun e w'=>e=.returned (.string (mkS (be long n)))∧∃g d',w'=Wd w (l++g) d':=by
 have hmk:(Tryz.prog.info? 5).map (fun i=>(i.zero,i.size,i.bytes))=some (some (.int .u8 0),1,1):=by kernel_rfl
 have hz5:zeroOf Tryz.prog 5=.int .u8 0:=by kernel_rfl
 have hcb:long≤140737488355328:=by omega
 have hlen:∀k,k≤long→(fin1 (hb n long) k (rep long)).length=long:=fun k hk=>by rw[fin1_length (by rw[rep_length];exact hk),rep_length]
 go_enter Tryz.func121,Tryz.ntmps121
 go_wp2
 go_loopw [6,11] (fun _ i wr=>∃(k d:Nat),k≤long∧i=.int .i64 k∧wr=Wd w (l++[.cells (cv .u8 (fin1 (hb n long) k (rep long))) 5 (0,0)]) d) (fun _ i _=>long-(intOf i).toNat)
 case atStart=>exact⟨0,_,by omega,rfl,by rw[fin1_zero]⟩
 case round =>
  obtain⟨k,d,hk,rfl,rfl⟩:=hrel
  have hln:=hlen k hk
  by_cases hlt:k<long
  ·have hki:(k:Int)<long:=by omega
   obtain⟨p,hp⟩:∃p,8*(long-1-k)=p:=⟨_,rfl⟩
   have hpi:(8:Int)*((long:Int)-1-k)=(p:Int):=by omega
   have hp64:p≤64:=by omega
   have HB:Hid (bt n p=hb n long k):=Lib.hid (by unfold bt shr64 hb;rw[hp])
   clear hlen
   go_wp2
   go_roundw
   case rel=>exact⟨k+1,_,by omega,by go_num,by rw[HB.out,fin1_step]⟩
   case measure=>simp[intOf];omega
  ·obtain rfl:k=long:=by omega
   go_wp2
   go_ret
   exact⟨by rw[←hb_end];rfl,_,_,rfl⟩
end Go.Proofs.YtlogjpmdfimgdaaGreatDoor.Jf
namespace Go.Own.Jf
open Go Go.RowKit
theorem wp_region_big_all{P:Program}{id:Nat}{Q:Exit→Act→World→Prop}{a:Act}{w:World}{l0:List Obj}{d:Nat}{l:List Oper}(hm:P.follows .mixedOrders=true)(hB:Region.lexB .any l.toArray=true)
  (h:wpQuiet P l.toArray (More w l0) (fun a'=>∀g e,Q .normal a' (Wd w (l0++g) e)) l a):(Code.region id l.toArray true).wp P Q a (Wd w l0 d):=by
 refine wp_region_quiet (C:=More w l0) hm hB ⟨[],d+1,by rw[List.append_nil];rfl⟩ ?_
 have e:(fun a'=>∀w',More w l0 w'→Q .normal a' w')=fun a'=>∀g e,Q .normal a' (Wd w (l0++g) e):=by
  funext a'
  exact propext all_more
 rw[e]
 exact h
theorem grows_of{P:Program}{f:FuncId}{args:Array Value}{v:Value}(h:∀(w:World) (l:List Obj) (d:Nat),Calls P f args (Wd w l d) fun e w'=>e=.returned v∧∃g d',w'=Wd w (l++g) d')(W:World) :
  Calls P f args W fun e w'=>e=.returned v∧Grows W w':=by
 refine calls_wd ((h W [] W.drawn).mono ?_)
 rintro e w' ⟨rfl,g,d',rfl⟩
 exact⟨rfl,Grows.of _ _ _⟩
theorem mkS_append(a b:List Nat):mkS a++mkS b=mkS (a++b):=by
 apply ByteArray.ext
 simp[mkS,ByteArray.data_append]
theorem mkS_cut(s:List Nat)(a b:Nat):(mkS s).extract a b=mkS ((s.drop a).take (b-a)):=by
 apply ByteArray.ext
 simp[mkS,List.extract_eq_take_drop,List.map_take,List.map_drop]
theorem add_mkS{P:Program}(a b:List Nat)(h:a.length+b.length≤1099511627776)(W:World):(Op.stringOp .add (mkS a) (mkS b)).run P W=.ok (.string (mkS (a++b))) W:=by
 rw[run_string_add_sum W _ _ (by rw[mkS_size,mkS_size];omega),mkS_append]
end Go.Own.Jf
namespace Go.Proofs.YtlogjpmdfimgdaaGreatDoor.Jf
open Go.RowKit Go.Own.Jf
attribute [-go_sem] Sm.execOp_bs run_string_add_if
theorem high8(n:Nat)(W:World):Calls Tryz.prog 121 #[.int .u64 (n:Int),.int .i64 8] W fun e w'=>e=.returned (.string (mkS (be 8 n)))∧Grows W w':=grows_of (high_any n 8 (by decide) (by decide)) W
theorem high4(n:Nat)(W:World):Calls Tryz.prog 121 #[.int .u64 (n:Int),.int .i64 4] W fun e w'=>e=.returned (.string (mkS (be 4 n)))∧Grows W w':=grows_of (high_any n 4 (by decide) (by decide)) W
theorem bsj32s(s:ByteArray)(w:World)(l:List Obj)(d:Nat):(bsN 29 1 #[(0,.string s)]).run Tryz.prog (Wd w l d)=.ok (.slice (some ⟨w.heap.size+l.length,0,none⟩) 1 1) (Wd w (l++[.cells #[.string s] 9 (0,0)]) d):=bsj32 rfl w l d
theorem parts_one{w:World}{l:List Obj}{d i:Nat}{s:ByteArray}(h:l[i]?=some (.cells #[.string s] 9 (0,0))):Sm.Parts (Wd w l d) (some ⟨w.heap.size+i,0,none⟩) [s]:=by
 intro j t hj
 obtain⟨rfl,rfl⟩:j=0∧s=t:=by
  match j,hj with
  |0,hj=>exact⟨rfl,by simpa using hj⟩
  |j+1,hj=>simp at hj
 exact⟨_,_,_,_,rfl,by rw[blk_at];exact h,rfl⟩
theorem of_one{w:World}{l:List Obj}{d i:Nat}(hR:Sm.Roots w)(s:ByteArray)(h:l[i]?=some (.cells #[.string s] 9 (0,0)))(hs:s.size≤1000000) :
  Calls Tryz.prog 100 #[.slice (some ⟨w.heap.size+i,0,none⟩) 1 1] (Wd w l d) fun e w'=>e=.returned (.string (mkS (Sm.digL (bys s))))∧∃g d',w'=Wd w (l++g) d':=by
 have e:Sm.allB [s]=bys s:=by simp[Sm.allB]
 refine(Sm.of_any (Wd w l d) (hR.wd _ _) _ 1 [s] (parts_one h) (by rw[e,bys_length];omega) (by show 1≤_;omega)).mono ?_
 rintro e' w' ⟨rfl,g,d',rfl⟩
 exact⟨by rw[e],g,d',Wd_wd _ _ _ _ _⟩
attribute [local go_sem] agj88 szj88 csj88 agj38 isaj38 agj9 isaj9 csj9 szj9 ldR0 ldR1 ldR2 bsj32s
set_option maxRecDepth 100000 in
set_option maxHeartbeats 2000000 in
theorem laid_any(w:World)(hR:Sm.Roots w)(g n:Nat)(t:ByteArray)(ht:t.size≤65535) :
  Calls Tryz.prog 85 #[.agg (rcl g n t)] w fun e w'=>e=.returned (.string (mkS (laidL g n (bys t))))∧Grows w w':=by
 have htl:=bys_length t
 have htw:IntKind.u64.wrap (t.size:Int)=((t.size:Nat):Int):=by
  have:t.size<18446744073709551616:=by omega
  simp only[IntKind.wrap,IntKind.bits,IntKind.signed];simp;omega
 have hbl:=body_length g n (bys t)
 have hal:=all_length g n (bys t)
 have hdl:=Sm.digL_length (bodyL g n (bys t))
 obtain⟨Y1,hY1⟩:∃y,[76]++be 8 g=y:=⟨_,rfl⟩
 obtain⟨Y2,hY2⟩:∃y,Y1++be 4 n=y:=⟨_,rfl⟩
 obtain⟨Y3,hY3⟩:∃y,Y2++be 4 t.size=y:=⟨_,rfl⟩
 obtain⟨B,hB⟩:∃y,bodyL g n (bys t)=y:=⟨_,rfl⟩
 have hB':Y3++bys t=B:=by rw[←hB,←hY3,←hY2,←hY1,←htl];rfl
 have l1:Y1.length=9:=by rw[←hY1];simp[be_length]
 have l2:Y2.length=13:=by rw[←hY2,List.length_append,l1,be_length]
 have l3:Y3.length=17:=by rw[←hY3,List.length_append,l2,be_length]
 rw[hB]at hbl hdl
 obtain⟨A,hA⟩:∃y,allL g n (bys t)=y:=⟨_,rfl⟩
 have hA':B++Sm.digL B=A:=by rw[←hA,←hB];rfl
 have hAL:laidL g n (bys t)=A.take (min 63 A.length)++rep (63-min 63 A.length)++[76]++A.drop (min 63 A.length):=by unfold laidL;rw[hA]
 rw[hA]at hal
 have a1:∀W,(Op.stringOp .add { data:=#[76] } (mkS (be 8 g))).run Tryz.prog W=.ok (.string (mkS Y1)) W:=fun W=>by
  have:=add_mkS (P:=Tryz.prog) [76] (be 8 g) (by simp[be_length]) W
  rw[hY1]at this;exact this
 have a2:∀W,(Op.stringOp .add (mkS Y1) (mkS (be 4 n))).run Tryz.prog W=.ok (.string (mkS Y2)) W:=fun W=>by rw[add_mkS _ _ (by rw[l1,be_length];decide),hY2]
 have a3:∀W,(Op.stringOp .add (mkS Y2) (mkS (be 4 t.size))).run Tryz.prog W=.ok (.string (mkS Y3)) W:=fun W=>by rw[add_mkS _ _ (by rw[l2,be_length];decide),hY3]
 have a4:∀W,(Op.stringOp .add (mkS Y3) t).run Tryz.prog W=.ok (.string (mkS B)) W:=fun W=>by
  have:=add_mkS (P:=Tryz.prog) Y3 (bys t) (by rw[l3,htl];omega) W
  rw[mkS_bys,hB']at this;exact this
 have a5:∀W,(Op.stringOp .add (mkS B) (mkS (Sm.digL B))).run Tryz.prog W=.ok (.string (mkS A)) W:=fun W=>by rw[add_mkS _ _ (by rw[hbl,hdl];omega),hA']
 have HB1:=Lib.hid fun (g':List Obj) (e:Nat)=>big_call (L:=fun g'=>Obj.cells (rcl g n t) 145 (0,0) :: g') (g:=g') (e:=e) (w:=w) (l0:=[Obj.cells (rcl g n t) 145 (0,0)]) (fun _ _=>rfl) (fun _=>rfl) (high8 g _)
 have HB2:=Lib.hid fun (g':List Obj) (e:Nat)=>big_call (L:=fun g'=>Obj.cells (rcl g n t) 145 (0,0) :: g') (g:=g') (e:=e) (w:=w) (l0:=[Obj.cells (rcl g n t) 145 (0,0)]) (fun _ _=>rfl) (fun _=>rfl) (high4 n _)
 have HB3:=Lib.hid fun (g':List Obj) (e:Nat)=>big_call (L:=fun g'=>Obj.cells (rcl g n t) 145 (0,0) :: g') (g:=g') (e:=e) (w:=w) (l0:=[Obj.cells (rcl g n t) 145 (0,0)]) (fun _ _=>rfl) (fun _=>rfl) (high4 t.size _)
 have hB8:B8 B:=by
  rw[←hB']
  refine B8.append ?_ (B8.bys t)
  rw[←hY3,←hY2,←hY1]
  refine((B8.append (fun x hx=>?_) (be_B8 _ _)).append (be_B8 _ _)).append (be_B8 _ _)
  rw[List.mem_singleton.1 hx];decide
 have HD:Hid (Sm.digL (bys (mkS B))=Sm.digL B):=Lib.hid (by rw[bys_mkS _ hB8])
 obtain⟨E,hE⟩:∃E,min 63 A.length=E:=⟨_,rfl⟩
 rw[hE]at hAL
 have hE63:E≤63:=by omega
 have hEA:E≤A.length:=by omega
 obtain⟨Z,hZ⟩:∃Z,63-E=Z:=⟨_,rfl⟩
 have hZi:(63:Int)-(E:Int)=(Z:Int):=by omega
 rw[hZ]at hAL
 obtain⟨M,hM⟩:∃M,A.length=M:=⟨_,rfl⟩
 have hAs:(mkS A).size=M:=by rw[mkS_size];exact hM
 rw[hM]at hEA hE hal
 have hmin:min (63:Int) (M:Int)=(E:Int):=by omega
 have hEi:(E:Int)≤(M:Int):=by omega
 obtain⟨P1,hP1⟩:∃P,(mkS A).extract 0 E=P:=⟨_,rfl⟩
 obtain⟨P2,hP2⟩:∃P,(mkS A).extract E M=P:=⟨_,rfl⟩
 have e1:P1=mkS (A.take E):=by rw[←hP1,mkS_cut,List.drop_zero,Nat.sub_zero]
 have e2:P2=mkS (A.drop E):=by rw[←hP2,mkS_cut,List.take_of_length_le (by rw[List.length_drop];omega)]
 have lA1:(A.take E).length≤63:=by rw[List.length_take];omega
 have lA2:(A.drop E).length≤65600:=by rw[List.length_drop];omega
 obtain⟨X1,hX1⟩:∃X,A.take E++rep Z=X:=⟨_,rfl⟩
 obtain⟨X2,hX2⟩:∃X,X1++[76]=X:=⟨_,rfl⟩
 have lX1:X1.length≤126:=by rw[←hX1,List.length_append,rep_length];omega
 have lX2:X2.length≤127:=by rw[←hX2,List.length_append,List.length_singleton];omega
 have b1:∀W,(Op.stringOp .add P1 (mkS (rep Z))).run Tryz.prog W=.ok (.string (mkS X1)) W:=fun W=>by rw[e1,add_mkS _ _ (by rw[rep_length];omega),hX1]
 have b2:∀W,(Op.stringOp .add (mkS X1) { data:=#[76] }).run Tryz.prog W=.ok (.string (mkS X2)) W:=fun W=>by
  have:=add_mkS (P:=Tryz.prog) X1 [76] (by rw[List.length_singleton];omega) W
  rw[hX2]at this;exact this
 have b3:∀W,(Op.stringOp .add (mkS X2) P2).run Tryz.prog W=.ok (.string (mkS (laidL g n (bys t)))) W:=fun W=>by rw[e2,add_mkS _ _ (by omega),hAL,←hX2,←hX1]
 have HB4:=Lib.hid fun (l0 g':List Obj) (e:Nat)=>big_call (L:=fun g'=>l0++g') (g:=g') (e:=e) (w:=w) (l0:=l0) (fun _ _=>List.append_assoc _ _ _) (fun _=>rfl) (grows_of (fun w l d=>repeat_any w l d Z (by omega)) _)
 have HZ:=Lib.hid hZ
 have hBs:(mkS B).size≤1000000:=by rw[mkS_size];omega
 have HR:=Lib.hid hR
 have HAL:=Lib.hid hAL
 have HBL:=Lib.hid hbl
 clear hR hY1 hY2 hY3 hB hB' hA hA' hAL hal hbl htl hE hM e1 e2 hX1 hX2 lA1 lA2 lX1 lX2 hZ hB8 hdl l1 l2 l3
 refine calls_wd ?_
 go_enter Tryz.func85,Tryz.ntmps85
 go_wp2
 refine wp_region_big_all (by kernel_rfl) (by kernel_rfl) ?_
 repeat (go_big_quiet_step ((intro _;first | (with_reducible exact HB1.out _ _) | (with_reducible exact HB2.out _ _) | (with_reducible exact HB3.out _ _))))
 refine wpQuiet_nil ?_
 intro gR eR
 go_wp2_with fail
 refine(of_one HR.out (mkS B) (by first | exact at_last' rfl | simp) hBs).mono ?_
 rintro e w' ⟨rfl,g1,d1,rfl⟩
 rw[HD.out]
 go_wp2
 obtain⟨L0,hL0⟩:∃L0,(Obj.cells (rcl g n t) 145 (0,0) :: (gR++Obj.cells #[Value.string (mkS B)] 9 (0,0) :: g1))=L0:=⟨_,rfl⟩
 rw[hL0]
 refine wp_region_big_all (by kernel_rfl) (by kernel_rfl) ?_
 repeat (go_big_quiet_step ((intro _;with_reducible exact HB4.out _ _ _)))
 refine wpQuiet_nil ?_
 intro gR2 eR2
 go_wp2
 go_ret
 exact⟨rfl,Grows.of _ _ _⟩
end Go.Proofs.YtlogjpmdfimgdaaGreatDoor.Jf
namespace Go.Own.Jf
open Go Go.RowKit Go.Own.Fr
theorem blk_below{w W:World}(h:Below w.heap.size w W){b:Nat}{o:Obj}(hb:blk w b=some o):blk W b=some o:=by
 unfold blk at hb ⊢
 rw[h.block b (by
  rcases Nat.lt_or_ge b w.heap.size with h' | h'
  ·exact h'
  ·simp[Array.getElem?_eq_none h']at hb)]
 exact hb
def lit1(x:Value)(t:TypeId):Value→World→Prop:=fun v W=>∃b,v=.slice (some ⟨b,0,none⟩) 1 1∧blk W b=some (.cells #[x] t (0,0))
theorem lit1_last(x:Value)(t:TypeId):Lasts (lit1 x t):=fun _ _ _ ⟨b,h1,h2⟩ hB=>⟨b,h1,blk_below hB h2⟩
theorem below_alloc(W:World)(o:Obj)(d:Nat):Below W.heap.size W (Wd W [o] d):=(Grows.of W [o] d).below
end Go.Own.Jf
namespace Go.Proofs.YtlogjpmdfimgdaaGreatDoor.Jf
open Go Go.RowKit Go.Own.Jf Go.Own.Fr
attribute [-go_sem] Sm.execOp_bs run_string_add_if
attribute [local go_sem] agj88 szj88 csj88 agj38 isaj38 agj9 isaj9 csj9 szj9 agj32 isaj32 csj32 szj32 agj78 isaj78 csj78 szj78 agj61 csj61 szj61 agj25 isaj25 csj25 szj25
section
variable{ρ:Operand→Value}{W:World}{dst:Option Tmp}{ty:TypeId}{pos:String}{after:Array Edge}{guard:Option (Nat×Bool)}{x y z:Operand}
theorem exec_add{a b c:Int}(h1:ρ x=.int .i64 a)(h2:ρ y=.int .i64 b)(hc:a+b=c)(h : -9223372036854775808≤c∧c≤9223372036854775807):(execOp ρ { dst,op:=.binOp .add 3 x y 3,type:=ty,pos,after,guard }).run Tryz.prog W=.ok (.value (.int .i64 c)) W:=by
 subst hc
 have hw:=IntWalk.i64_in (a+b) h
 simp[execOp,h1,h2,go_sem,hw]
theorem exec_cut{s:ByteArray}{a b:Nat}(h1:ρ x=.string s)(h2:ρ y=.int .i64 (a:Int))(h3:ρ z=.int .i64 (b:Int))(hab:a≤b)(hb:b≤s.size):(execOp ρ { dst,op:=.slice 9 x (some y) (some z) none,type:=ty,pos,after,guard }).run Tryz.prog W=.ok (.value (.string (s.extract a b))) W:=by
 have e1:(a:Int)≤(b:Int):=by omega
 have e2:(b:Int)≤(s.size:Int):=by omega
 simp[execOp,h1,h2,h3,go_sem,hab,hb]
theorem exec_head{s:ByteArray}{b:Nat}(h1:ρ x=.string s)(h3:ρ z=.int .i64 (b:Int))(hb:b≤s.size):(execOp ρ { dst,op:=.slice 9 x none (some z) none,type:=ty,pos,after,guard }).run Tryz.prog W=.ok (.value (.string (s.extract 0 b))) W:=by
 have e2:(b:Int)≤(s.size:Int):=by omega
 simp[execOp,h1,h3,go_sem,hb]
theorem exec_not{b:Bool}(h1:ρ x=.bool b):(execOp ρ { dst,op:=.unOp .not 4 x,type:=ty,pos,after,guard }).run Tryz.prog W=.ok (.value (.bool (!b))) W:=by
 simp[execOp,h1,go_sem]
theorem exec_field{T k off:Nat}{b o:Nat}(h1:ρ x=.pointer (some ⟨b,o,none⟩))(hr:(Instr.fieldAt T (.pointer (some ⟨b,o,none⟩)) k).run Tryz.prog W=.ok (.pointer (some ⟨b,o+off,none⟩)) W):(execOp ρ { dst,op:=.fieldAddr T x k,type:=ty,pos,after,guard }).run Tryz.prog W=.ok (.value (.pointer (some ⟨b,o+off,none⟩))) W:=by
 simp[execOp,h1,hr,Result.andThen]
theorem exec_load{T:TypeId}{v r:Value}(h1:ρ x=v)(hr:(Instr.loadAt T v).run Tryz.prog W=.ok r W):(execOp ρ { dst,op:=.load T x,type:=ty,pos,after,guard }).run Tryz.prog W=.ok (.value r) W:=by
 have e:execOp ρ { dst,op:=.load T x,type:=ty,pos,after,guard }=(Instr.loadAt T (ρ x) >>= fun v=>pure (.value v)):=rfl
 rw[e,h1]
 simp[hr,Result.andThen]
set_option maxRecDepth 100000 in
theorem lays_bs{i:Nat}{ps:List (Value→World→Prop)}{a:Act}{T E:TypeId}{v:Value}(hb:∀(w:World) (l:List Obj) (d:Nat),(bsN T 1 #[(0,v)]).run Tryz.prog (Wd w l d)=.ok (.slice (some ⟨w.heap.size+l.length,0,none⟩) 1 1) (Wd w (l++[.cells #[v] E (0,0)]) d))
  (h1:a.eval x=v) (hT:∀u W,lit1 v E u W→TL ps i u W):Lays Tryz.prog (TL ps) i { dst,op:=.buildSlice T 1 #[(0,x)],type:=ty,pos,after,guard } a W:=by
 have hr:=hb W [] W.drawn
 rw[Wd_nil,List.nil_append,List.length_nil,Nat.add_zero]at hr
 unfold bsN at hr
 have hB:=below_alloc W (.cells #[v] E (0,0)) W.drawn
 have hL:lit1 v E (.slice (some ⟨W.heap.size,0,none⟩) 1 1) (Wd W [.cells #[v] E (0,0)] W.drawn):=⟨W.heap.size,rfl,by rw[blk_at0];rfl⟩
 have he:(execOp a.eval { dst,op:=.buildSlice T 1 #[(0,x)],type:=ty,pos,after,guard }).run Tryz.prog W=.ok (.value (.slice (some ⟨W.heap.size,0,none⟩) 1 1)) (Wd W [.cells #[v] E (0,0)] W.drawn):=by
  unfold execOp
  simp only[List.map_toArray,List.map_cons,List.map_nil,h1,Sem.run_bind,hr,Result.andThen_ok]
  rfl
 exact lays_value he hB (hT _ _ hL)
end
theorem eval_tmp(a:Act)(s:Nat):a.eval (.tmp s)=a.tmps.getD s undef:=rfl
end Go.Proofs.YtlogjpmdfimgdaaGreatDoor.Jf
namespace Go.Proofs.YtlogjpmdfimgdaaGreatDoor.Jf
open Go Go.RowKit Go.Own.Jf Go.Own.Fr
def litB(B:Nat)(x:Value)(t:TypeId):Value→World→Prop:=fun v W=>∃b,B≤b∧v=.slice (some ⟨b,0,none⟩) 1 1∧blk W b=some (.cells #[x] t (0,0))
theorem litB_last(B:Nat)(x:Value)(t:TypeId):Lasts (litB B x t):=fun _ _ _ ⟨b,h0,h1,h2⟩ hB=>⟨b,h0,h1,blk_below hB h2⟩
set_option maxRecDepth 100000 in
theorem lays_bsB{dst:Option Tmp}{ty:TypeId}{pos:String}{after:Array Edge}{guard:Option (Nat×Bool)}{x:Operand}{W:World}{i:Nat}{ps:List (Value→World→Prop)}{a:Act}{T E:TypeId}{v:Value}{B:Nat}(hB:B≤W.heap.size)(hb:∀(w:World) (l:List Obj) (d:Nat),(bsN T 1 #[(0,v)]).run Tryz.prog (Wd w l d)=.ok (.slice (some ⟨w.heap.size+l.length,0,none⟩) 1 1) (Wd w (l++[.cells #[v] E (0,0)]) d))
  (h1:a.eval x=v) (hT:∀u W,litB B v E u W→TL ps i u W):Lays Tryz.prog (TL ps) i { dst,op:=.buildSlice T 1 #[(0,x)],type:=ty,pos,after,guard } a W:=by
 have hr:=hb W [] W.drawn
 rw[Wd_nil,List.nil_append,List.length_nil,Nat.add_zero]at hr
 unfold bsN at hr
 have hB2:=below_alloc W (.cells #[v] E (0,0)) W.drawn
 have hL:litB B v E (.slice (some ⟨W.heap.size,0,none⟩) 1 1) (Wd W [.cells #[v] E (0,0)] W.drawn):=⟨W.heap.size,hB,rfl,by rw[blk_at0];rfl⟩
 have he:(execOp a.eval { dst,op:=.buildSlice T 1 #[(0,x)],type:=ty,pos,after,guard }).run Tryz.prog W=.ok (.value (.slice (some ⟨W.heap.size,0,none⟩) 1 1)) (Wd W [.cells #[v] E (0,0)] W.drawn):=by
  unfold execOp
  simp only[List.map_toArray,List.map_cons,List.map_nil,h1,Sem.run_bind,hr,Result.andThen_ok]
  rfl
 exact lays_value he hB2 (hT _ _ hL)
theorem _root_.Go.Own.Jf.RowV.beyond{A:Nat→Prop}{w:World}{l:List Obj}{sz n:Nat}{v:Value}{C:List Value}(h:RowV A w l sz n v C){p:Nat}(hp:l.length≤p):NotAt w v p:=by
 rcases h with⟨rfl,_⟩ | ⟨i,c,X,t,_,rfl,hi,_⟩
 ·intro n c e;simp at e
 ·intro n' c' e
  simp at e
  have:=(List.getElem?_eq_some_iff.1 hi).1
  omega
end Go.Proofs.YtlogjpmdfimgdaaGreatDoor.Jf
namespace Go.Own.Jf
open Go Go.RowKit Go.Own.Fr
def rnd(l:Nat):Fence:=Fence.wide.inRound l
section
variable{P:Program}{ops:Array Oper}{Q:Exit→Act→World→Prop}{l n:Nat}
theorem calls_rnd{f:FuncId}{args:Array Value}{w:World}{R:Ending→World→Prop}(h:Calls P f args w R):CallsIn (rnd l) n P f args w R :=
 CallsIn.inRound l (callsIn_wide.2 h)
theorem rows_rnd{row:String}{args:Array Value}{w:World}{R:Value→World→Prop}(h:Rows P row args w R):RowsIn (rnd l) n P row args w R :=
 fun c cs _=>let ⟨v,w',r,s⟩:=h c cs;⟨v,w',r,stepsIn_wide.2 s⟩
theorem operIn_rnd{o:Oper}{a:Act}{w:World}{K K':Act→World→Prop}(hd:∀c,o.op≠.defer c)(hK:∀a w,K a w→K' a w)(h:o.wp P a w K Q):o.wpIn (rnd l) n P a w K' Q:=by
 refine⟨fun _ _=>trivial,?_⟩
 rw[Oper.semAt_eq _ _ _ hd]
 unfold Oper.wp at h
 generalize (execOp a.eval o).run P w=r at h
 cases r with
 |ok x w' =>
  cases x with
  |value v=>exact hK _ _ h
  |skip=>exact hK _ _ h
  |defer d=>exact hK _ _ h
  |enter f args =>
   refine⟨fun h0=>(by cases h0),calls_rnd (Calls.mono h ?_)⟩
   intro e w2 he
   cases e with
   |returned v=>exact hK _ _ he
   |panicked c=>exact he
   |outgrown=>exact he
  |row r args =>
   refine⟨fun h0=>(by cases h0),rows_rnd (Rows.mono h ?_)⟩
   intro v w2 he
   exact hK _ _ he
  |_=>exact h.elim
 |halt h' w'=>cases h' <;> first | exact h | exact h.elim
theorem wpOpIn_rnd{i:Nat}{a:Act}{w:World}{K K':Act→World→Prop}(hL:¬LetsOut Q)(hd:∀o:Oper,ops[i]?=some o→∀c,o.op≠.defer c)(hK:∀a w,K a w→K' a w)(h:wpOp P ops Q i K a w) :
  wpOpIn (rnd l) n P ops Q i K' a w:=by
 unfold wpOp at h
 unfold wpOpIn
 cases ho:ops[i]? with
 |none=>rw[ho]at h;exact hK _ _ h
 |some o =>
  rw[ho]at h
  simp only at h ⊢
  split
  ·rename_i hw
   rw[if_pos hw]at h
   rcases h with h | h
   ·exact operIn_rnd (hd o ho) hK h
   ·exact absurd h.2 hL
  ·rename_i hw
   rw[if_neg hw]at h
   exact⟨fun _ _=>trivial,hK _ _ h⟩
theorem wpAnyIn_rnd(hL:¬LetsOut Q)(hd:∀(i:Nat) (o:Oper),ops[i]?=some o→∀c,o.op≠.defer c){md:Region.Mode}:∀(fuel:Nat) (done:Array Bool) (a:Act) (w:World),wpAny P md ops Q fuel done a w→wpAnyIn (rnd l) n P md ops Q fuel done a w
 |0,_,_,_,h=>h
 |fuel+1,_,_,_,h=>⟨h.1,fun i hi=>wpOpIn_rnd hL (hd i) (fun _ _ h=>wpAnyIn_rnd hL hd fuel _ _ _ h) (h.2 i hi)⟩
theorem wpListIn_rnd(hL:¬LetsOut Q):∀(L:List Oper) (a:Act) (w:World),(∀o∈L,∀c,o.op≠.defer c)→wpList P ops Q L a w→wpListIn (rnd l) n P ops Q L a w
 | [],_,_,_,h=>h
 |o :: rest,a,w,hd,h=>by
  unfold wpList at h
  unfold wpListIn
  split
  ·rename_i hw
   rw[if_pos hw]at h
   rcases h with h | h
   ·exact operIn_rnd (hd o List.mem_cons_self) (fun _ _ h=>wpListIn_rnd hL rest _ _ (fun o ho=>hd o (List.mem_cons_of_mem _ ho)) h) h
   ·exact absurd h.2 hL
  ·rename_i hw
   rw[if_neg hw]at h
   exact⟨fun _ _=>trivial,wpListIn_rnd hL rest _ _ (fun o ho=>hd o (List.mem_cons_of_mem _ ho)) h⟩
def noDefer(ops:Array Oper):Bool:=ops.all fun o=>match o.op with | .defer _=>false | _=>true
theorem noDefer_at(h:noDefer ops=true):∀(i:Nat) (o:Oper),ops[i]?=some o→∀c,o.op≠.defer c:=by
 intro i o ho c hc
 unfold noDefer at h
 have:=Array.all_eq_true_iff_forall_mem.1 h o (Array.mem_of_getElem? ho)
 rw[hc]at this
 cases this
theorem region_rnd{id:Nat}{a:Act}{w:World}(hm:P.follows .mixedOrders=true)(hn:noDefer ops=true)(hL:¬LetsOut Q)
  (h:wpAny P .any ops Q ops.size (Array.replicate ops.size false) a { w with drawn:=w.drawn+1 }):(Code.region id ops true).wpIn (rnd l) n P Q a w :=
 wpIn_region_any hm (wpAnyIn_rnd hL (noDefer_at hn) _ _ _ _ h)
theorem region_rnd_lit{id:Nat}{L:List Oper}{a:Act}{w:World}(hn:noDefer L.toArray=true)(hL:¬LetsOut Q)
  (h:wpList P L.toArray Q L a w):(Code.region id L.toArray false).wpIn (rnd l) n P Q a w :=
 wpIn_region_lit (wpListIn_rnd hL _ _ _ (fun o ho=>by
  obtain⟨i,hi⟩:=List.mem_iff_getElem?.1 ho
  exact noDefer_at hn i o (by simpa using hi)) h)
end
def marks(w:World)(js:List Nat):List Deferred:=js.map fun j=>{ target:=.collected (w.heap.size+j),args:=#[] }
theorem Wd_putObj(w:World)(l:List Obj)(d j:Nat)(o:Obj):(Wd w l d).putObj (w.heap.size+j) o=Wd w (l.set j o) d:=by
 unfold World.putObj Wd
 simp only[World.mk.injEq,and_true]
 apply Array.ext'
 simp only[Array.toList_setIfInBounds,Array.toList_append]
 rw[List.set_append_right _ _ (by simp)]
 simp
theorem leaves_marks{F:Fence}{n:Nat}{P:Program}{fn:Func}{tmps:Array Value}{R:Ending→World→Prop}(w:World)(d:Nat):∀(js:List Nat) (l:List Obj),(∀j∈js,l[j]?=some (.deferred (some [])))→js.Nodup →
  (∀l',(∀i,i ∉ js→l'[i]?=l[i]?)→∃v,(results fn tmps).run P (Wd w l' d)=.ok v (Wd w l' d)∧R (.returned v) (Wd w l' d))→LeavesInM F n P fn tmps R (marks w js) .returning (Wd w l d)
 | [],l,_,_,h=>h l fun _ _=>rfl
 |j :: js,l,hj,hn,h=>by
  have hb:(Wd w l d).heap[w.heap.size+j]?=some (.deferred (some [])):=by rw[Wd_at];exact hj j List.mem_cons_self
  refine⟨by simp,.inl ⟨_,_,rfl,run_takeDeferred hb,?_⟩⟩
  rw[Wd_putObj]
  have hn':=List.nodup_cons.1 hn
  refine leaves_marks w d js _ (fun i hi=>?_) hn'.2 (fun l' hl'=>h l' fun i hi=>?_)
  ·have:j≠i:=fun e=>hn'.1 (e▸hi)
   rw[List.getElem?_set_ne this];exact hj i (List.mem_cons_of_mem _ hi)
  ·rw[hl' i (fun e=>hi (List.mem_cons_of_mem _ e)),List.getElem?_set_ne (fun e:j=i=>hi (by rw[←e];exact List.mem_cons_self))]
def KeepsB(b:Nat)(A B:World):Prop:=∀o,blk A b=some o→blk B b=some o
theorem grown_wd{w W':World}{L:List Obj}{d:Nat}{row:Option Nat}(hg:(Wd w L d).grownBy W' row)(hr:∀r,row=some r→w.heap.size≤r) :
  ∃L' d',W'=Wd w L' d'∧L.length≤L'.length∧∀p,p<L.length→row≠some (w.heap.size+p)→L'[p]?=L[p]?:=by
 have hB:Below (w.heap.size+([]:List Obj).length) (Wd w ([]++L) d) W':=by
  refine⟨hg.os,hg.tape,hg.output,hg.size,fun k hk=>hg.block k (by simp[Wd]at hk ⊢;omega) (fun e=>?_)⟩
  have:=hr k e.symm;simp at hk;omega
 obtain⟨L',d',rfl⟩:=Go.Proofs.YtlogjpmdfimgdaaGreatDoor.Jf.below_wd hB
 refine⟨L',d',rfl,?_,fun p hp hne=>?_⟩
 ·have:=hg.size;simp[Wd]at this;omega
 ·have h1:=hg.block (w.heap.size+p) (by simp[Wd];omega) (fun e=>hne e.symm)
  rw[Wd_at,Wd_at]at h1
  exact h1
end Go.Own.Jf
namespace Go.Proofs.YtlogjpmdfimgdaaGreatDoor.Jf
open Go Go.RowKit Go.Own.Jf Go.Shelf Go.Own.Fr
abbrev Ck:={ x:Nat×ByteArray // x.1≤100000∧x.2.size≤64 }
def ckB(y:ByteArray)(n k:Nat):Ck:=⟨(min (n-1-k) 100000,y.extract ((n-1-k)*64) (min ((n-1-k)*64+64) y.size)),by omega,by rw[ByteArray.size_extract];omega⟩
def cksB(y:ByteArray)(n k:Nat):List Ck:=(List.range k).map (ckB y n)
theorem cksB_succ(y:ByteArray)(n k:Nat):cksB y n (k+1)=cksB y n k++[ckB y n k]:=by simp[cksB,List.range_succ]
theorem cksB_length(y:ByteArray)(n k:Nat):(cksB y n k).length=k:=by simp[cksB]
def encC(x:Ck):Array Value:=#[.int .i64 ((x.1.1:Nat):Int),.string x.1.2]
attribute [-go_sem] Sm.execOp_bs run_string_add_if
attribute [local go_sem] Oper.semAt_some
attribute [local go_sem] isaj9 agj9
set_option maxRecDepth 100000 in
set_option maxHeartbeats 1000000 in
theorem chunks_stops(y:ByteArray)(hy:y.size≤1000000)(h1:1≤y.size)(b n:Nat)(w:World)(hb:blk w b=some (.cells #[.string y] 9 (0,0))) :
  SeqStopsK Fence.wide n Tryz.prog 120 #[.pointer (some ⟨b,0,none⟩)] encC (KeepsB b) (fun xs=>xs=cksB y ((y.size+63)/64) ((y.size+63)/64)) (fun _=>True) ((y.size+63)/64) w:=by
 intro l J Jx W hW hJ hJx hY h0
 have hbW:blk W b=some (.cells #[.string y] 9 (0,0)):=by
  have hbl:b<w.heap.size:=by
   unfold blk at hb
   rcases Nat.lt_or_ge b w.heap.size with h' | h'
   ·exact h'
   ·simp[Array.getElem?_eq_none h']at hb
  unfold blk at hb ⊢
  rw[hW.block b hbl];exact hb
 have HBW:=Lib.hid hbW
 obtain⟨N,hN⟩:∃N,(y.size+63)/64=N:=⟨_,rfl⟩
 rw[hN]at hY ⊢
 have HY:=Lib.hid hY
 have H0:=Lib.hid h0
 have HN:Hid (64*N<y.size+64∧y.size≤64*N):=Lib.hid (by omega)
 have hN0:((y.size:Int)-1)/64=(N:Int)-1:=by omega
 have hNb:N≤20000:=by omega
 have hN1:1≤N:=by omega
 have hyb:(1:Int)≤(y.size:Int):=by omega
 have HN0:=Lib.hid hN0
 clear hY h0 hbW hb hW hJ hJx hN hN0
 refine callsIn_of_wp Tryz.func120 rfl trivial ?_ rfl
 simp only[Tryz.ntmps120,List.size_toArray,List.length_cons,List.length_nil,Nat.reduceAdd,Nat.reduceSub,Array.replicate_succ,Array.replicate_zero,List.push_toArray,List.append_toArray,List.nil_append,List.cons_append]
 have hb0:=HBW.out
 gi_wp2
 gi_loopw [3,4] (fun e i wr=>∃k:Nat,k≤N∧e=.int .i64 ((min ((N-k)*64) y.size:Nat):Int)∧i=.int .i64 ((N:Int)-1-(k:Int))∧Hid (blk wr b=some (.cells #[.string y] 9 (0,0)))∧Hid (J (cksB y N k) wr)) (fun _ i _=>(intOf i+1).toNat)
 case atStart=>exact⟨0,by omega,by have:=HN.out;congr 1;omega,by have:=HN0.out;congr 1;omega,HBW,H0⟩
 case round =>
  obtain⟨k,hk,rfl,rfl,hB,hJ⟩:=hrel
  have hb':=hB.out
  clear hb0
  by_cases hlt:k<N
  ·obtain⟨c,hc⟩:∃c,N-1-k=c:=⟨_,rfl⟩
   have hci:(N:Int)-1-(k:Int)=(c:Int):=by omega
   obtain⟨p,hp⟩:∃p,c*64=p:=⟨_,rfl⟩
   have hpi:(c:Int)*64=(p:Int):=by omega
   obtain⟨e,he⟩:∃e,min ((N-k)*64) y.size=e:=⟨_,rfl⟩
   rw[he,hci]
   have hpe:p≤e:=by have:=HN.out;omega
   have hpei:(p:Int)≤(e:Int):=by omega
   have hey:e≤y.size:=by omega
   have heyi:(e:Int)≤(y.size:Int):=by omega
   have hcb:c≤20000:=by omega
   have hpb:p≤2000000:=by omega
   have heb:e≤1000000:=by omega
   have hc0:(0:Int)≤(c:Int):=by omega
   obtain⟨fn,tmps,assign,body,hy,hR⟩:=HY.out (cksB y N k) (ckB y N k) wr hJ.out (by rw[cksB_length];exact hlt)
   have e1:(ckB y N k).1.1=c:=by show min (N-1-k) 100000=c;omega
   have e2:(ckB y N k).1.2=y.extract p e:=by
    show y.extract ((N-1-k)*64) (min ((N-1-k)*64+64) y.size)=_
    congr 1
    ·rw[hc];exact hp
    ·omega
   have HE:=Lib.hid he
   have HC:=Lib.hid hc
   have HP:=Lib.hid hp
   unfold encC at hy
   rw[e1,e2]at hy
   clear e1 e2 he hc hp hJ
   gi_wp2
   refine⟨fun h0=>(by cases h0),hR.mono ?_⟩
   rintro e' W' (⟨rfl,hJ',hk'⟩ | ⟨rfl,hJx'⟩)
   ·rw[←cksB_succ]at hJ'
    have HJ':=Lib.hid hJ'
    have HB':=Lib.hid (hk' _ hb')
    clear hJ' hk'
    gi_wp2
    go_roundw
    case rel=>exact⟨k+1,hlt,by have:=HC.out;have:=HP.out;congr 1;omega,by have:=HC.out;congr 1;omega,HB',HJ'⟩
    case measure=>simp[intOf]
   ·gi_wp2
    refine bodyPost_ret (results_none rfl _ _ _) rfl ?_
    exact⟨⟨_,rfl⟩,.inr ⟨_,trivial,hJx'⟩⟩
  ·obtain rfl:k=N:=by omega
   have hneg:(k:Int)-1-(k:Int) = -1:=by omega
   rw[hneg]
   gi_wp2
   go_end0
   exact⟨⟨_,rfl⟩,.inl ⟨_,rfl,hJ.out⟩⟩
end Go.Proofs.YtlogjpmdfimgdaaGreatDoor.Jf

/- A disk's own block, and a write's: the laws to read and write them. No condition. -/
import Derived.Test.YtlogjpmdfimgdaaGreatDoorZ04
import Derived.Test.YtlogjpmdfimgdaaGreatDoorRows
import Derived.Deep.QuietTactic
import Derived.BigQuiet
import Derived.StillTailTactics
import Derived.Test.YtlogjpmdfimgdaaGreatDoorZ10
import Derived.Test.YtlogjpmdfimgdaaGreatDoorZ11
namespace Go.Own.Jf
open Go.RowKit
def dc(vs vl vw:Value)(n:Nat)(a:Int)(k:Nat)(t:Int)(o:Bool):Array Value:=#[vs,vl,vw,.int .i64 (n:Int),.int .i64 a,.int .u64 (k:Int),.int .i64 t,.bool o]
def kc(a:Int)(k:Nat)(t:Int):Array Value:=#[.int .i64 a,.int .u64 (k:Int),.int .i64 t]
theorem kc_size(a:Int)(k:Nat)(t:Int):(kc a k t).size=3:=rfl
theorem dc_size(vs vl vw:Value)(n:Nat)(a:Int)(k:Nat)(t:Int)(o:Bool):(dc vs vl vw n a k t o).size=8:=rfl
def wv(a:Nat)(x:List Nat):Array Value:=#[.int .i64 (a:Int)]++cv .u8 x
theorem wv_size(a:Nat)(x:List Nat):(wv a x).size=x.length+1:=by simp[wv];omega
theorem wv_list(a:Nat)(x:List Nat):(wv a x).toList=.int .i64 (a:Int) :: (cv .u8 x).toList:=by simp[wv]
theorem wv_one(a:Nat)(x:List Nat):∀v∈(wv a x).toList,v.oneCell'=true:=by
 intro v hv
 rw[wv_list,List.mem_cons]at hv
 rcases hv with rfl | h
 ·rfl
 ·exact cv_oneCell v h
theorem kc_one(a:Int)(k:Nat)(t:Int):∀v∈(kc a k t).toList,v.oneCell'=true:=by
 intro v hv
 simp[kc]at hv
 rcases hv with rfl | rfl | rfl <;> rfl
section
variable{P:Program}{T:TypeId}{b:Nat}{W:World}{vs vl vw:Value}{n:Nat}{a:Int}{k:Nat}{t:Int}{o:Bool}{ty:TypeId}{f:Nat×Nat}
theorem ldD0(ha:(isAgg T).run P W=.ok false W)(h2:blk W b=some (.cells (dc vs vl vw n a k t o) ty f)):ldX P T none (some (.cells (dc vs vl vw n a k t o) ty f)) b 0 W=.ok vs W:=ldX_mix1 ha h2 rfl
theorem ldD1(ha:(isAgg T).run P W=.ok false W)(h2:blk W b=some (.cells (dc vs vl vw n a k t o) ty f)):ldX P T none (some (.cells (dc vs vl vw n a k t o) ty f)) b 1 W=.ok vl W:=ldX_mix1 ha h2 rfl
theorem ldD2(ha:(isAgg T).run P W=.ok false W)(h2:blk W b=some (.cells (dc vs vl vw n a k t o) ty f)):ldX P T none (some (.cells (dc vs vl vw n a k t o) ty f)) b 2 W=.ok vw W:=ldX_mix1 ha h2 rfl
theorem ldD3(ha:(isAgg T).run P W=.ok false W)(h2:blk W b=some (.cells (dc vs vl vw n a k t o) ty f)):ldX P T none (some (.cells (dc vs vl vw n a k t o) ty f)) b 3 W=.ok (.int .i64 (n:Int)) W:=ldX_mix1 ha h2 rfl
theorem ldD4(ha:(isAgg T).run P W=.ok false W)(h2:blk W b=some (.cells (dc vs vl vw n a k t o) ty f)):ldX P T none (some (.cells (dc vs vl vw n a k t o) ty f)) b 4 W=.ok (.int .i64 a) W:=ldX_mix1 ha h2 rfl
theorem ldD5(ha:(isAgg T).run P W=.ok false W)(h2:blk W b=some (.cells (dc vs vl vw n a k t o) ty f)):ldX P T none (some (.cells (dc vs vl vw n a k t o) ty f)) b 5 W=.ok (.int .u64 (k:Int)) W:=ldX_mix1 ha h2 rfl
theorem ldD6(ha:(isAgg T).run P W=.ok false W)(h2:blk W b=some (.cells (dc vs vl vw n a k t o) ty f)):ldX P T none (some (.cells (dc vs vl vw n a k t o) ty f)) b 6 W=.ok (.int .i64 t) W:=ldX_mix1 ha h2 rfl
theorem ldD7(ha:(isAgg T).run P W=.ok false W)(h2:blk W b=some (.cells (dc vs vl vw n a k t o) ty f)):ldX P T none (some (.cells (dc vs vl vw n a k t o) ty f)) b 7 W=.ok (.bool o) W:=ldX_mix1 ha h2 rfl
theorem ldK(h1:aggSize P T=some 3)(h2:blk W b=some (.cells (kc a k t) ty f)):ldX P T (some 3) (some (.cells (kc a k t) ty f)) b 0 W=.ok (.agg (kc a k t)) W:=by
 rw[ldX_mix h1 h2 (by rw[kc_size];omega)];rfl
theorem ldK0(ha:(isAgg T).run P W=.ok false W)(h2:blk W b=some (.cells (kc a k t) ty f)):ldX P T none (some (.cells (kc a k t) ty f)) b 0 W=.ok (.int .i64 a) W:=ldX_mix1 ha h2 rfl
variable{w:World}{l:List Obj}{d i:Nat}
theorem stD2{p:Option Addr}{x y:Nat}(h1:(sizeOf T).run P (Wd w l d)=.ok 1 (Wd w l d))(h2:l[i]?=some (.cells (dc vs vl vw n a k t o) ty (0,0))) :
  stX P T 1 (some (.cells (dc vs vl vw n a k t o) ty (0,0))) w l d i 2 (.slice p x y)=.ok () (Wd w (l.set i (.cells (dc vs vl (.slice p x y) n a k t o) ty (0,0))) d):=by
 rw[stX_mix1 h1 rfl h2 (by rw[dc_size];omega)];rfl
theorem stD3{m:Nat}(h1:(sizeOf T).run P (Wd w l d)=.ok 1 (Wd w l d))(h2:l[i]?=some (.cells (dc vs vl vw n a k t o) ty (0,0))) :
  stX P T 1 (some (.cells (dc vs vl vw n a k t o) ty (0,0))) w l d i 3 (.int .i64 (m:Int))=.ok () (Wd w (l.set i (.cells (dc vs vl vw m a k t o) ty (0,0))) d):=by
 rw[stX_mix1 h1 rfl h2 (by rw[dc_size];omega)];rfl
theorem stD3z(h1:(sizeOf T).run P (Wd w l d)=.ok 1 (Wd w l d))(h2:l[i]?=some (.cells (dc vs vl vw n a k t o) ty (0,0))) :
  stX P T 1 (some (.cells (dc vs vl vw n a k t o) ty (0,0))) w l d i 3 (.int .i64 0)=.ok () (Wd w (l.set i (.cells (dc vs vl vw 0 a k t o) ty (0,0))) d):=stD3 (m:=0) h1 h2
theorem stD4{m:Int}(h1:(sizeOf T).run P (Wd w l d)=.ok 1 (Wd w l d))(h2:l[i]?=some (.cells (dc vs vl vw n a k t o) ty (0,0))) :
  stX P T 1 (some (.cells (dc vs vl vw n a k t o) ty (0,0))) w l d i 4 (.int .i64 m)=.ok () (Wd w (l.set i (.cells (dc vs vl vw n m k t o) ty (0,0))) d):=by
 rw[stX_mix1 h1 rfl h2 (by rw[dc_size];omega)];rfl
theorem stD7{m:Bool}(h1:(sizeOf T).run P (Wd w l d)=.ok 1 (Wd w l d))(h2:l[i]?=some (.cells (dc vs vl vw n a k t o) ty (0,0))) :
  stX P T 1 (some (.cells (dc vs vl vw n a k t o) ty (0,0))) w l d i 7 (.bool m)=.ok () (Wd w (l.set i (.cells (dc vs vl vw n a k t m) ty (0,0))) d):=by
 rw[stX_mix1 h1 rfl h2 (by rw[dc_size];omega)];rfl
theorem stD47{a':Int}{k':Nat}{t':Int}(h1:(sizeOf T).run P (Wd w l d)=.ok 3 (Wd w l d))(h2:l[i]?=some (.cells (dc vs vl vw n a k t o) ty (0,0))) :
  stX P T 3 (some (.cells (dc vs vl vw n a k t o) ty (0,0))) w l d i 4 (.agg (kc a' k' t'))=.ok () (Wd w (l.set i (.cells (dc vs vl vw n a' k' t' o) ty (0,0))) d):=by
 rw[stX_mix h1 h2 rfl (by rw[dc_size];omega) (kc_one _ _ _)];rfl
theorem stK{a':Int}{k':Nat}{t':Int}(h1:(sizeOf T).run P (Wd w l d)=.ok 3 (Wd w l d))(h2:l[i]?=some (.cells (kc a k t) ty (0,0))) :
  stX P T 3 (some (.cells (kc a k t) ty (0,0))) w l d i 0 (.agg (kc a' k' t'))=.ok () (Wd w (l.set i (.cells (kc a' k' t') ty (0,0))) d):=by
 rw[stX_mix h1 h2 rfl (by rw[kc_size];omega) (kc_one _ _ _)];rfl
end
end Go.Own.Jf
namespace Go.Proofs.YtlogjpmdfimgdaaGreatDoor.Jf
open Go.RowKit Go.Own.Jf
theorem ag3:aggSize Tryz.prog 3=none:=by kernel_rfl
theorem ag4:aggSize Tryz.prog 4=none:=by kernel_rfl
theorem ag5:aggSize Tryz.prog 5=none:=by kernel_rfl
theorem ag9:aggSize Tryz.prog 9=none:=by kernel_rfl
theorem ag29:aggSize Tryz.prog 29=none:=by kernel_rfl
theorem ag39:aggSize Tryz.prog 39=none:=by kernel_rfl
theorem ag41:aggSize Tryz.prog 41=some 3:=by kernel_rfl
theorem ag101:aggSize Tryz.prog 101=none:=by kernel_rfl
theorem ag102:aggSize Tryz.prog 102=none:=by kernel_rfl
theorem ag104:aggSize Tryz.prog 104=some 8:=by kernel_rfl
theorem ag208:aggSize Tryz.prog 208=some 64:=by kernel_rfl
theorem ag222:aggSize Tryz.prog 222=some 65:=by kernel_rfl
theorem cs3:Tryz.prog.cellsOf 3=1:=by kernel_rfl
theorem cs4:Tryz.prog.cellsOf 4=1:=by kernel_rfl
theorem cs5:Tryz.prog.cellsOf 5=1:=by kernel_rfl
theorem cs9:Tryz.prog.cellsOf 9=1:=by kernel_rfl
theorem cs29:Tryz.prog.cellsOf 29=1:=by kernel_rfl
theorem cs39:Tryz.prog.cellsOf 39=1:=by kernel_rfl
theorem cs41:Tryz.prog.cellsOf 41=3:=by kernel_rfl
theorem cs101:Tryz.prog.cellsOf 101=1:=by kernel_rfl
theorem cs102:Tryz.prog.cellsOf 102=1:=by kernel_rfl
theorem cs104:Tryz.prog.cellsOf 104=8:=by kernel_rfl
theorem cs208:Tryz.prog.cellsOf 208=64:=by kernel_rfl
theorem cs222:Tryz.prog.cellsOf 222=65:=by kernel_rfl
theorem sz3(w:World):(sizeOf 3).run Tryz.prog w=.ok 1 w:=by kernel_rfl
theorem sz4(w:World):(sizeOf 4).run Tryz.prog w=.ok 1 w:=by kernel_rfl
theorem sz5(w:World):(sizeOf 5).run Tryz.prog w=.ok 1 w:=by kernel_rfl
theorem sz9(w:World):(sizeOf 9).run Tryz.prog w=.ok 1 w:=by kernel_rfl
theorem sz29(w:World):(sizeOf 29).run Tryz.prog w=.ok 1 w:=by kernel_rfl
theorem sz39(w:World):(sizeOf 39).run Tryz.prog w=.ok 1 w:=by kernel_rfl
theorem sz41(w:World):(sizeOf 41).run Tryz.prog w=.ok 3 w:=by kernel_rfl
theorem sz101(w:World):(sizeOf 101).run Tryz.prog w=.ok 1 w:=by kernel_rfl
theorem sz102(w:World):(sizeOf 102).run Tryz.prog w=.ok 1 w:=by kernel_rfl
theorem sz104(w:World):(sizeOf 104).run Tryz.prog w=.ok 8 w:=by kernel_rfl
theorem sz208(w:World):(sizeOf 208).run Tryz.prog w=.ok 64 w:=by kernel_rfl
theorem sz222(w:World):(sizeOf 222).run Tryz.prog w=.ok 65 w:=by kernel_rfl
theorem isa3(w:World):(isAgg 3).run Tryz.prog w=.ok false w:=by kernel_rfl
theorem isa4(w:World):(isAgg 4).run Tryz.prog w=.ok false w:=by kernel_rfl
theorem isa5(w:World):(isAgg 5).run Tryz.prog w=.ok false w:=by kernel_rfl
theorem isa9(w:World):(isAgg 9).run Tryz.prog w=.ok false w:=by kernel_rfl
theorem isa29(w:World):(isAgg 29).run Tryz.prog w=.ok false w:=by kernel_rfl
theorem isa39(w:World):(isAgg 39).run Tryz.prog w=.ok false w:=by kernel_rfl
theorem isa101(w:World):(isAgg 101).run Tryz.prog w=.ok false w:=by kernel_rfl
theorem isa102(w:World):(isAgg 102).run Tryz.prog w=.ok false w:=by kernel_rfl
theorem z208:zeroOf Tryz.prog 208=.agg (cv .u8 (rep 64)):=by kernel_rfl
theorem z222:zeroOf Tryz.prog 222=.agg (wv 0 (rep 64)):=by kernel_rfl
theorem z5:zeroOf Tryz.prog 5=.int .u8 0:=by kernel_rfl
theorem bu41(W:World):(buN 41 #[]).run Tryz.prog W=.ok (.agg (kc 0 0 0)) W:=by kernel_rfl
attribute [go_sem] ag3 ag4 ag5 ag9 ag29 ag39 ag41 ag101 ag102 ag104 ag208 ag222
attribute [go_sem] cs3 cs4 cs5 cs9 cs29 cs39 cs41 cs101 cs102 cs104 cs208 cs222
attribute [go_sem] sz3 sz4 sz5 sz9 sz29 sz39 sz41 sz101 sz102 sz104 sz208 sz222
attribute [go_sem] isa3 isa4 isa5 isa9 isa29 isa39 isa101 isa102 z208 z222 z5 bu41
attribute [go_sem] ldD0 ldD1 ldD2 ldD3 ldD4 ldD5 ldD6 ldD7 ldK ldK0 stD2 stD3 stD3z stD4 stD7 stD47 stK
theorem down_any(w:World)(l:List Obj)(d i:Nat){vs vl vw:Value}{n:Nat}{a:Int}{k:Nat}{t:Int}{o:Bool}(h:l[i]?=some (.cells (dc vs vl vw n a k t o) 104 (0,0))) :
  Calls Tryz.prog 41 #[.pointer (some ⟨w.heap.size+i,0,none⟩)] (Wd w l d) fun e w'=>e=.returned (.bool o)∧Wd w l d=w':=by
 go_enter Tryz.func41,Tryz.ntmps41
 go_wp2
 go_ret
 exact⟨rfl,rfl⟩
theorem size_any(w:World)(l:List Obj)(d i:Nat){p:Option Addr}{m c:Nat}{vl vw:Value}{n:Nat}{a:Int}{k:Nat}{t:Int}{o:Bool}(h:l[i]?=some (.cells (dc (.slice p m c) vl vw n a k t o) 104 (0,0))) :
  Calls Tryz.prog 40 #[.pointer (some ⟨w.heap.size+i,0,none⟩)] (Wd w l d) fun e w'=>e=.returned (.int .i64 (m:Int))∧Wd w l d=w':=by
 go_enter Tryz.func40,Tryz.ntmps40
 go_wp2
 go_ret
 exact⟨rfl,rfl⟩
end Go.Proofs.YtlogjpmdfimgdaaGreatDoor.Jf

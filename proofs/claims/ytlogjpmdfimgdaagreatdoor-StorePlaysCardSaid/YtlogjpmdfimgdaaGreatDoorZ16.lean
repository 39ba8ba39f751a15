/- copy between rows of bytes of the call's own; a block of mixed cells made; where a block lies. No condition. -/
import Derived.Test.YtlogjpmdfimgdaaGreatDoorZ15
namespace Go.Own.Jf
open Go.RowKit
theorem at_next'{l:List Obj}{A B C:Obj}{n:Nat}(h:l.length=n):(l++[A,B,C])[n+1]?=some B:=by subst h;rw[List.getElem?_append_right (by omega)];simp
theorem at_third{l:List Obj}{A B C:Obj}{n:Nat}(h:l.length=n):(l++[A,B,C])[n+2]?=some C:=by subst h;rw[List.getElem?_append_right (by omega)];simp
theorem at_mid2'{A g r:List Obj}{a:Obj}{n:Nat}(h:A.length+g.length=n):(A++(g++a :: r))[n]?=some a:=by
 rw[←List.append_assoc];exact at_mid' (by rw[List.length_append,h])
theorem set_mid2'{A g r:List Obj}{a b:Obj}{n:Nat}(h:A.length+g.length=n):(A++(g++a :: r)).set n b=A++(g++b :: r):=by
 rw[←List.append_assoc,set_mid' (by rw[List.length_append,h]),List.append_assoc]
theorem alX_mix{P:Program}{T:TypeId}{w:World}{l:List Obj}{d:Nat}{c:Array Value}(h:zeroOf P T=.agg c) :
  alX P T (.agg c) w l d=.ok (.pointer (some ⟨w.heap.size+l.length,0,none⟩)) (Wd w (l++[.cells c T (0,0)]) d):=by
 simp[alX,alN,Instr.alloc,run_zeroOf h,newVar,newRow,Value.cells,Wd_size,Wd_alloc]
theorem splA_all{c:Array Value}{x:List Value}(h:x.length=c.size):splA c 0 x=x.toArray:=by
 unfold splA
 rw[List.take_zero,List.nil_append,List.drop_of_length_le (by rw[Array.length_toList];omega),List.append_nil]
theorem stX_all{P:Program}{T:TypeId}{n:Nat}{w:World}{l:List Obj}{d i:Nat}{c x:Array Value}{t:TypeId}
  (h1:(sizeOf T).run P (Wd w l d)=.ok n (Wd w l d)) (h2:l[i]?=some (.cells c t (0,0))) (hx:x.size=n) (h3:c.size=n) (h4:∀v∈x.toList,v.oneCell'=true) :
  stX P T n (some (.cells c t (0,0))) w l d i 0 (.agg x)=.ok () (Wd w (l.set i (.cells x t (0,0))) d):=by
 rw[stX_mix h1 h2 hx (by omega) h4,splA_all (by rw[Array.length_toList];omega)]
def cp2X(P:Program)(dT sT ty:TypeId)(_ob _oc:Option Obj)(w:World)(l:List Obj)(d i o n c j o2 m c2:Nat):Result Value :=
 (Builtin.copy_ #[dT,sT] ty #[.slice (some ⟨w.heap.size+i,o,none⟩) n c,.slice (some ⟨w.heap.size+j,o2,none⟩) m c2]).run P (Wd w l d)
@[go_sem] theorem run_cp2(P:Program)(dT sT ty:TypeId)(w:World)(l:List Obj)(d i o n c j o2 m c2:Nat) :
  (Builtin.copy_ #[dT,sT] ty #[.slice (some ⟨w.heap.size+i,o,none⟩) n c,.slice (some ⟨w.heap.size+j,o2,none⟩) m c2]).run P (Wd w l d)=cp2X P dT sT ty l[i]? l[j]? w l d i o n c j o2 m c2:=rfl
theorem cp2X_gen{P:Program}{dT sT ty:TypeId}{w:World}{l:List Obj}{d i o n c j o2 m c2 k sz:Nat}{S:List Nat}{Y:Array Value}{x:List Nat}{t t2:TypeId}{f2:Nat×Nat}
  (hu:P.underlying dT=some (.slice (P.elem dT))) (h1:(sizeOf (P.elem dT)).run P (Wd w l d)=.ok sz (Wd w l d)) (h2:l[i]?=some (.cells (cv .u8 S) t (0,0))) (h3:l[j]?=some (.cells Y t2 f2))
  (hk:Nat.min m n=k) (hY:o2+k*sz≤Y.size) (hx:Y.extract o2 (o2+k*sz)=cv .u8 x) (hfit:o+x.length≤S.length) :
  (Builtin.copy_ #[dT,sT] ty #[.slice (some ⟨w.heap.size+i,o,none⟩) n c,.slice (some ⟨w.heap.size+j,o2,none⟩) m c2]).run P (Wd w l d)=.ok (.int .i64 (k:Int)) (Wd w (l.set i (.cells (cv .u8 (spl S o x)) t (0,0))) d):=by
 have hl:=loadCells_mix (P:=P) (b:=w.heap.size+j) (o:=o2) (n:=k*sz) (W:=Wd w l d) (c:=Y) (t:=t2) (f:=f2) (by rw[blk_at];exact h3) hY
 rw[hx]at hl
 have hr:=run_storeCells_at P (w.heap.size+i) o t (cv .u8 x).toList 0 (cv .u8 S) (Wd w l d) (by rw[Wd_at];exact h2) (by simp;omega) cv_oneCell
 rw[Nat.add_zero,spl_cv,Wd_setRow _ _ _ _ _ _ _ _ h2]at hr
 simp[Builtin.copy_,run_underlying hu,Builtin.lenOf,h1,hk,Builtin.firstCells,hl,hr,goInt]
theorem cp2X_full{P:Program}{dT sT ty:TypeId}{w:World}{l:List Obj}{d i n c j c2 sz:Nat}{S X:List Nat}{t t2:TypeId}{f2:Nat×Nat}
  (hu:P.underlying dT=some (.slice (P.elem dT))) (h1:(sizeOf (P.elem dT)).run P (Wd w l d)=.ok sz (Wd w l d)) (h2:l[i]?=some (.cells (cv .u8 S) t (0,0))) (h3:l[j]?=some (.cells (cv .u8 X) t2 f2))
  (hS:S.length=n*sz) (hX:X.length=n*sz) :
  cp2X P dT sT ty (some (.cells (cv .u8 S) t (0,0))) (some (.cells (cv .u8 X) t2 f2)) w l d i 0 n c j 0 n c2=.ok (.int .i64 (n:Int)) (Wd w (l.set i (.cells (cv .u8 X) t (0,0))) d):=by
 have:=cp2X_gen (P:=P) (ty:=ty) (sT:=sT) (c:=c) (c2:=c2) (o:=0) (o2:=0) (n:=n) (m:=n) (k:=n) (x:=X) hu h1 h2 h3 (Nat.min_self n) (by rw[cv_size];omega) (by
  rw[Nat.zero_add,←hX,←cv_size .u8 X,Array.extract_size]) (by omega)
 rw[spl_full (by omega)]at this
 exact this
theorem cp2X_wv{P:Program}{dT sT ty:TypeId}{w:World}{l:List Obj}{d i o c j m c2 a:Nat}{S x:List Nat}{t t2:TypeId}{f2:Nat×Nat}
  (hu:P.underlying dT=some (.slice (P.elem dT))) (h1:(sizeOf (P.elem dT)).run P (Wd w l d)=.ok 1 (Wd w l d)) (h2:l[i]?=some (.cells (cv .u8 S) t (0,0))) (h3:l[j]?=some (.cells (wv a x) t2 f2))
  (hm:m≤64) (hx:x.length=64) (hfit:o+64≤S.length) :
  cp2X P dT sT ty (some (.cells (cv .u8 S) t (0,0))) (some (.cells (wv a x) t2 f2)) w l d i o 64 c j 1 m c2=.ok (.int .i64 (m:Int)) (Wd w (l.set i (.cells (cv .u8 (spl S o (x.take m))) t (0,0))) d):=by
 refine cp2X_gen (k:=m) (x:=x.take m) hu h1 h2 h3 (Nat.min_eq_left hm) (by rw[wv_size];omega) ?_ (by rw[List.length_take];omega)
 apply Array.ext'
 rw[Array.toList_extract,wv_list,List.extract_eq_take_drop,Nat.mul_one,Nat.add_sub_cancel_left]
 show ((cv .u8 x).toList).take m=_
 simp[cv,List.map_take]
end Go.Own.Jf

/- A tally's block: eight words, 64 bytes, a count; the laws to read and write it. No condition. -/
import Derived.Test.YtlogjpmdfimgdaaGreatDoorZ04
namespace Go.Own.Jf
open Go.RowKit
def tc(st bl:List Nat)(n:Nat):Array Value:=cv .u32 st++cv .u8 bl++#[.int .i64 n]
theorem tc_size(st bl:List Nat)(n:Nat):(tc st bl n).size=st.length+bl.length+1:=by simp[tc];omega
theorem tc_list(st bl:List Nat)(n:Nat):(tc st bl n).toList=(cv .u32 st).toList++((cv .u8 bl).toList++[.int .i64 n]):=by simp[tc]
theorem cv_len(k:IntKind)(s:List Nat):(cv k s).toList.length=s.length:=by simp
theorem tc_st(st bl:List Nat)(n:Nat):(tc st bl n).extract 0 (0+st.length)=cv .u32 st:=by
 apply Array.ext'
 rw[Array.toList_extract,tc_list,List.extract_eq_take_drop,List.drop_zero,Nat.zero_add,Nat.sub_zero,List.take_append_of_le_length (by rw[cv_len];exact Nat.le_refl _),List.take_of_length_le (by rw[cv_len];exact Nat.le_refl _)]
theorem tc_bl(st bl:List Nat)(n:Nat):(tc st bl n).extract st.length (st.length+bl.length)=cv .u8 bl:=by
 apply Array.ext'
 rw[Array.toList_extract,tc_list,List.extract_eq_take_drop,List.drop_append_of_le_length (by rw[cv_len];exact Nat.le_refl _),List.drop_of_length_le (by rw[cv_len];exact Nat.le_refl _),List.nil_append,Nat.add_sub_cancel_left,List.take_append_of_le_length (by rw[cv_len];exact Nat.le_refl _),List.take_of_length_le (by rw[cv_len];exact Nat.le_refl _)]
theorem tc_n(st bl:List Nat)(n:Nat):(tc st bl n)[st.length+bl.length]?=some (.int .i64 n):=by
 rw[←Array.getElem?_toList,tc_list,List.getElem?_append_right (by rw[cv_len];omega),cv_len,Nat.add_sub_cancel_left,List.getElem?_append_right (by rw[cv_len];exact Nat.le_refl _),cv_len,Nat.sub_self]
 rfl
theorem tc_set_st(st st' bl:List Nat)(n:Nat)(h:st'.length=st.length):splA (tc st bl n) 0 (cv .u32 st').toList=tc st' bl n:=by
 apply Array.ext'
 rw[splA,tc_list,tc_list,cv_len,List.take_zero,List.nil_append,Nat.zero_add,List.drop_append_of_le_length (by rw[cv_len];omega),List.drop_of_length_le (by rw[cv_len];omega),List.nil_append]
theorem tc_set_n(st bl:List Nat)(n m:Nat):splA (tc st bl n) (st.length+bl.length) [.int .i64 (m:Int)]=tc st bl m:=by
 apply Array.ext'
 have e:(tc st bl n).toList=((cv .u32 st).toList++(cv .u8 bl).toList)++[.int .i64 n]:=by rw[tc_list,List.append_assoc]
 have hl:((cv .u32 st).toList++(cv .u8 bl).toList).length=st.length+bl.length:=by simp
 rw[splA,e,tc_list,List.take_append_of_le_length (by omega),List.take_of_length_le (by omega),List.drop_of_length_le (by simp;omega),List.append_nil,List.append_assoc]
theorem tc_set_bl(st bl x:List Nat)(n o:Nat)(h:o+x.length≤bl.length):splA (tc st bl n) (st.length+o) (cv .u8 x).toList=tc st (spl bl o x) n:=by
 apply Array.ext'
 rw[splA,tc_list,tc_list,cv_len]
 have h1:(cv .u32 st).toList.length=st.length:=cv_len _ _
 rw[List.take_append,h1,List.take_of_length_le (by omega),Nat.add_sub_cancel_left,List.take_append_of_le_length (by rw[cv_len];omega)]
 rw[List.drop_append,h1,List.drop_of_length_le (by omega),List.nil_append,show st.length+o+x.length-st.length=o+x.length by omega,List.drop_append_of_le_length (by rw[cv_len];omega)]
 simp[cv,spl,List.map_take,List.map_drop]
theorem tc_one(st bl:List Nat)(n:Nat):∀v∈(tc st bl n).toList,v.oneCell'=true:=by
 intro v hv
 rw[tc_list,List.mem_append,List.mem_append]at hv
 rcases hv with h | h | h
 ·exact cv_oneCell v h
 ·exact cv_oneCell v h
 ·obtain rfl:=List.mem_singleton.1 h;rfl
theorem tc_all(st bl st' bl':List Nat)(n n':Nat)(h1:st'.length=st.length)(h2:bl'.length=bl.length):splA (tc st bl n) 0 (tc st' bl' n').toList=tc st' bl' n':=by
 apply Array.ext'
 rw[splA,List.take_zero,List.nil_append,List.drop_of_length_le,List.append_nil]
 rw[Array.length_toList,Array.length_toList,tc_size,tc_size];omega
theorem tc_extract(st bl:List Nat)(n m:Nat)(h:m=st.length+bl.length+1):(tc st bl n).extract 0 (0+m)=tc st bl n:=by
 apply Array.ext'
 rw[Array.toList_extract,List.extract_eq_take_drop,List.drop_zero,List.take_of_length_le]
 rw[Array.length_toList,tc_size];omega
section
variable{P:Program}{T:TypeId}{b:Nat}{W:World}{st bl:List Nat}{n:Nat}{t:TypeId}{f:Nat×Nat}
theorem ldX_st(hs:st.length=8)(h1:aggSize P T=some 8)(h2:blk W b=some (.cells (tc st bl n) t f)):ldX P T (some 8) (some (.cells (tc st bl n) t f)) b 0 W=.ok (.agg (cv .u32 st)) W:=by
 rw[ldX_mix h1 h2 (by rw[tc_size];omega),←hs,tc_st]
theorem ldX_bl(hs:st.length=8)(hb:bl.length=64)(h1:aggSize P T=some 64)(h2:blk W b=some (.cells (tc st bl n) t f)):ldX P T (some 64) (some (.cells (tc st bl n) t f)) b 8 W=.ok (.agg (cv .u8 bl)) W:=by
 rw[ldX_mix h1 h2 (by rw[tc_size];omega),←hs,←hb,tc_bl]
theorem ldX_n(hs:st.length=8)(hb:bl.length=64)(ha:(isAgg T).run P W=.ok false W)(h2:blk W b=some (.cells (tc st bl n) t f)):ldX P T none (some (.cells (tc st bl n) t f)) b 72 W=.ok (.int .i64 n) W :=
 ldX_mix1 ha h2 (by rw[show 72=st.length+bl.length by omega,tc_n])
theorem ldX_tc(hs:st.length=8)(hb:bl.length=64)(h1:aggSize P T=some 73)(h2:blk W b=some (.cells (tc st bl n) t f)):ldX P T (some 73) (some (.cells (tc st bl n) t f)) b 0 W=.ok (.agg (tc st bl n)) W:=by
 rw[ldX_mix h1 h2 (by rw[tc_size];omega),tc_extract _ _ _ _ (by omega)]
variable{w:World}{l:List Obj}{d i:Nat}
theorem stX_st{st':List Nat}(hs:st.length=8)(h1:(sizeOf T).run P (Wd w l d)=.ok 8 (Wd w l d))(h2:l[i]?=some (.cells (tc st bl n) t (0,0)))(hs':st'.length=8) :
  stX P T 8 (some (.cells (tc st bl n) t (0,0))) w l d i 0 (.agg (cv .u32 st'))=.ok () (Wd w (l.set i (.cells (tc st' bl n) t (0,0))) d):=by
 rw[stX_mix h1 h2 (by simp[hs']) (by rw[tc_size];omega) cv_oneCell,tc_set_st _ _ _ _ (by omega)]
theorem stX_n{m:Nat}(hs:st.length=8)(hb:bl.length=64)(h1:(sizeOf T).run P (Wd w l d)=.ok 1 (Wd w l d))(h2:l[i]?=some (.cells (tc st bl n) t (0,0))) :
  stX P T 1 (some (.cells (tc st bl n) t (0,0))) w l d i 72 (.int .i64 (m:Int))=.ok () (Wd w (l.set i (.cells (tc st bl m) t (0,0))) d):=by
 rw[stX_mix1 h1 rfl h2 (by rw[tc_size];omega),show 72=st.length+bl.length by omega,tc_set_n]
theorem stX_tc{st' bl':List Nat}{m:Nat}(hs:st.length=8)(hb:bl.length=64)(h1:(sizeOf T).run P (Wd w l d)=.ok 73 (Wd w l d))(h2:l[i]?=some (.cells (tc st bl n) t (0,0)))(hs':st'.length=8)(hb':bl'.length=64) :
  stX P T 73 (some (.cells (tc st bl n) t (0,0))) w l d i 0 (.agg (tc st' bl' m))=.ok () (Wd w (l.set i (.cells (tc st' bl' m) t (0,0))) d):=by
 rw[stX_mix h1 h2 (by rw[tc_size];omega) (by rw[tc_size];omega) (tc_one _ _ _),tc_all _ _ _ _ _ _ (by omega) (by omega)]
def cpn(c m:Nat):Nat:=Nat.min m c
theorem cpX_tc{dT sT ty:TypeId}{o c c2:Nat}{s:ByteArray}(hs:st.length=8)(hb:bl.length=64)(hu:P.underlying dT=some (.slice (P.elem dT)))(h1:(sizeOf (P.elem dT)).run P (Wd w l d)=.ok 1 (Wd w l d))(h2:l[i]?=some (.cells (tc st bl n) t (0,0)))(ho:o+c≤64) :
  cpX P dT sT ty (some (.cells (tc st bl n) t (0,0))) w l d i (8+o) c c2 s=.ok (.int .i64 ((cpn c s.size:Nat):Int)) (Wd w (l.set i (.cells (tc st (spl bl o ((bys s).take c)) n) t (0,0))) d):=by
 have hle1:Nat.min s.size c≤s.size:=Nat.min_le_left _ _
 have hle2:Nat.min s.size c≤c:=Nat.min_le_right _ _
 have hor:Nat.min s.size c=s.size∨Nat.min s.size c=c:=by
  show min s.size c=_∨min s.size c=_
  omega
 have hm:cpn c s.size=Nat.min s.size c:=rfl
 rw[hm]
 have hbs:=bys_length s
 generalize hmm:Nat.min s.size c=m at *
 have he:bys (s.extract 0 m)=(bys s).take c:=by
  rw[bys_extract,List.drop_zero,Nat.sub_zero]
  rcases hor with h | h
  ·rw[List.take_of_length_le (by omega),List.take_of_length_le (by omega)]
  ·rw[h]
 have hx:(bys (s.extract 0 m)).length=m:=by
  rw[he,List.length_take,hbs]
  omega
 have hr:=run_storeCells_at P (w.heap.size+i) (8+o) t (cv .u8 (bys (s.extract 0 m))).toList 0 (tc st bl n) (Wd w l d) (by rw[Wd_at];exact h2) (by rw[cv_len,hx,tc_size];omega) cv_oneCell
 rw[Nat.add_zero,Wd_setRow _ _ _ _ _ _ _ _ h2]at hr
 have hsp:((tc st bl n).toList.take (8+o)++(cv .u8 (bys (s.extract 0 m))).toList++(tc st bl n).toList.drop (8+o+(cv .u8 (bys (s.extract 0 m))).toList.length)).toArray=tc st (spl bl o ((bys s).take c)) n:=by
  have:=tc_set_bl st bl (bys (s.extract 0 m)) n o (by rw[hx];omega)
  rw[hs,splA]at this
  rw[this,he]
 rw[hsp,he]at hr
 have hf:((s.extract 0 m).data.map fun b=>Value.int .u8 b.toNat)=cv .u8 ((bys s).take c):=by rw[cells_bys,he]
 have hf':(Builtin.firstCells 1 m (.string s)).run P (Wd w l d)=.ok (cv .u8 ((bys s).take c)) (Wd w l d):=by
  simp only[Builtin.firstCells,Sem.run_pure,hf]
 simp[cpX,Builtin.copy_,run_underlying hu,Builtin.lenOf,h1,hmm,hf',hr,goInt]
end
end Go.Own.Jf

/- A tally's beginning, its ending, its text: by contract. | Bytes that come to a tally: by contract. | The digest of a tally: by contract. | The digest of parts: by contract. -/
import Derived.Test.YtlogjpmdfimgdaaGreatDoorZ07
import Derived.Test.YtlogjpmdfimgdaaGreatDoorZ08
namespace Go.Proofs.YtlogjpmdfimgdaaGreatDoor.Jf.Sm
open Go.RowKit Go.Own.Jf
theorem ag234:aggSize Tryz.prog 234=some 73:=by kernel_rfl
theorem cs234:Tryz.prog.cellsOf 234=73:=by kernel_rfl
theorem sz234(w:World):(sizeOf 234).run Tryz.prog w=.ok 73 w:=by kernel_rfl
theorem z234:zeroOf Tryz.prog 234=.agg (tc (rep 8) (rep 64) 0):=by kernel_rfl
def startL:List Nat:=[1779033703,3144134277,1013904242,2773480762,1359893119,2600822924,528734635,1541459225]
theorem startL_length:startL.length=8:=rfl
theorem bu230s(W:World):(buN 230 #[(0,.int .u32 1779033703),(1,.int .u32 3144134277),(2,.int .u32 1013904242),(3,.int .u32 2773480762),(4,.int .u32 1359893119),(5,.int .u32 2600822924),(6,.int .u32 528734635),(7,.int .u32 1541459225)]).run Tryz.prog W=.ok (.agg (cv .u32 startL)) W:=by kernel_rfl
theorem bu234(W:World):(buN 234 #[(0,.agg (cv .u32 startL))]).run Tryz.prog W=.ok (.agg (tc startL (rep 64) 0)) W:=by kernel_rfl
def bsN(T:TypeId)(n:Nat)(parts:Array (Nat×Value)):Sem Value:=Instr.buildSlice T n parts
@[go_sem ↓] theorem execOp_bs(ρ:Operand→Value)(dst:Option Tmp)(T:TypeId)(n:Nat)(parts:Array (Nat×Operand))(ty:TypeId)(pos:String)(after:Array Edge)(guard:Option (Nat×Bool)) :
  execOp ρ { dst,op:=.buildSlice T n parts,type:=ty,pos,after,guard }=(bsN T n (parts.map fun (i,x)=>(i,ρ x)) >>= fun v=>pure (.value v)):=rfl
theorem bs4(a b c e:Nat)(w:World)(l:List Obj)(d:Nat):(bsN 140 4 #[(0,.int .u8 a),(1,.int .u8 b),(2,.int .u8 c),(3,.int .u8 e)]).run Tryz.prog (Wd w l d) =
  .ok (.slice (some ⟨w.heap.size+l.length,0,none⟩) 4 4) (Wd w (l++[.cells (cv .u8 [a,b,c,e]) 5 (0,0)]) d):=by
 rw[←Wd_alloc,←Wd_size w l d]
 generalize Wd w l d=W
 kernel_rfl
theorem bs1(a:Nat)(w:World)(l:List Obj)(d:Nat):(bsN 140 1 #[(0,.int .u8 a)]).run Tryz.prog (Wd w l d) =
  .ok (.slice (some ⟨w.heap.size+l.length,0,none⟩) 1 1) (Wd w (l++[.cells (cv .u8 [a]) 5 (0,0)]) d):=by
 rw[←Wd_alloc,←Wd_size w l d]
 generalize Wd w l d=W
 kernel_rfl
attribute [local go_sem] ag230 ag232 ag245 ag195 ag5 ag3 cs230 cs232 cs245 cs195 cs5 cs3 sz230 sz232 sz245 sz195 sz5 sz3 isa195 isa5 isa3 z230 z245 ag234 cs234 sz234 z234 bu230s bu234 bs4 bs1
set_option maxRecDepth 100000 in
theorem start_any(w:World):Calls Tryz.prog 144 #[] w fun e w'=>e=.returned (.agg (cv .u32 startL))∧Grows w w':=by
 have hl:=startL_length
 refine calls_wd ?_
 go_enter Tryz.func144,Tryz.ntmps144
 go_wp2
 exact ret_cell (i:=0) rfl rfl ag230 rfl startL_length rfl ⟨rfl,Grows.of _ _ _⟩
set_option maxRecDepth 100000 in
theorem new_any(w:World)(l:List Obj)(d:Nat):Calls Tryz.prog 128 #[] (Wd w l d) fun e w'=>∃g d',e=.returned (.pointer (some ⟨w.heap.size+(l.length+g.length),0,none⟩))∧w'=Wd w (l++g++[.cells (tc startL (rep 64) 0) 234 (0,0)]) d':=by
 go_enter Tryz.func128,Tryz.ntmps128
 go_wp2_with fail
 refine(start_any _).mono ?_
 rintro e w' ⟨rfl,g,d',rfl⟩
 rw[Wd_wd]
 go_wp2
 go_ret
 exact⟨g,_,rfl,by rw[List.append_assoc]⟩
def byteOf(x n:Nat):Nat:=shr32 x n%256
def wordF(st:List Nat)(i:Nat):List Nat:=[byteOf (gi st i) 24,byteOf (gi st i) 16,byteOf (gi st i) 8,gi st i%256]
def textL(st:List Nat):List Nat:=(List.range 8).flatMap (wordF st)
theorem wordF_length(st:List Nat)(i:Nat):(wordF st i).length=4:=rfl
theorem textL_length(st:List Nat):(textL st).length=32:=flat_length (c:=4) (fun _=>rfl) 8
theorem w8(x:Nat):IntKind.u8.wrap (x:Int)=((x%256:Nat):Int):=wrap8 x
theorem w8s(x n:Nat):IntKind.u8.wrap ((shr32 x n:Nat):Int)=((byteOf x n:Nat):Int):=wrap8 _
set_option maxRecDepth 100000 in
set_option maxHeartbeats 1000000 in
theorem text_any(st:List Nat)(hs:st.length=8)(w:World) :
  Calls Tryz.prog 147 #[.agg (cv .u32 st)] w fun e w'=>e=.returned (.string (mkS (textL st)))∧Grows w w':=by
 have hmk:(Tryz.prog.info? 5).map (fun i=>(i.zero,i.size,i.bytes))=some (some (.int .u8 0),1,1):=by kernel_rfl
 have hz5:zeroOf Tryz.prog 5=.int .u8 0:=by kernel_rfl
 refine calls_wd ?_
 go_enter Tryz.func147,Tryz.ntmps147
 go_wp2
 go_loopw [3,8] (fun q i wr=>∃(k:Nat) (g:List Obj),k≤8∧i=.int .i64 k∧q=.slice (some ⟨w.heap.size+1,0,none⟩) (4*k) 32∧wr=Wd w (.cells (cv .u32 st) 230 (0,0) :: .cells (cv .u8 (fin 4 (wordF st) k (rep 32))) 5 (0,0) :: g) w.drawn) (fun _ i _=>8-(intOf i).toNat)
 case atStart=>exact⟨0,[],by omega,rfl,rfl,by rw[fin_zero]⟩
 case round =>
  obtain⟨k,g,hk,rfl,rfl,rfl⟩:=hrel
  have hl:(fin 4 (wordF st) k (rep 32)).length=32:=by rw[fin_length (wordF_length st) (by simp;omega),rep_length]
  by_cases hlt:k<8
  ·obtain⟨x,hx⟩:∃x,gi st k=x:=⟨_,rfl⟩
   have hst:Hid (spl (fin 4 (wordF st) k (rep 32)) (4*k) [byteOf x 24,byteOf x 16,byteOf x 8,x%256]=fin 4 (wordF st) (k+1) (rep 32)):=by rw[←fin_step (wordF_length st),←hx];exact rfl
   have e24:=w8s x 24
   have e16:=w8s x 16
   have e8:=w8s x 8
   have e0:=w8 x
   generalize byteOf x 24=y1 at *
   generalize byteOf x 16=y2 at *
   generalize byteOf x 8=y3 at *
   generalize x%256=y4 at *
   have hroom:4*k+4≤32:=by omega
   go_wp2
   go_roundw
   case rel=>exact⟨k+1,_,by omega,by go_num,by rw[Nat.mul_succ],by rw[hst.out]⟩
   case measure=>simp[intOf];omega
  ·obtain rfl:k=8:=by omega
   have he:=Lib.hid (fin_end (c:=4) (f:=wordF st) (n:=8) (s:=rep 32) (by simp))
   go_wp2
   go_ret
   exact⟨by rw[he.out];rfl,Grows.of _ _ _⟩
theorem spl_right(A B:List Nat)(o:Nat)(x:List Nat):spl (A++B) (A.length+o) x=A++spl B o x:=by
 unfold spl
 rw[List.take_append,List.take_of_length_le (by omega),Nat.add_sub_cancel_left,List.drop_append,List.drop_of_length_le (by omega),List.nil_append,show A.length+o+x.length-A.length=o+x.length by omega]
 simp
def shr64(a n:Nat):Nat:=a/2 ^ n
theorem shr64_op(a n:Nat)(yk:IntKind)(h:n≤64):Op.shift .shr .u64 (a:Int) yk (n:Int)=pure (.int .u64 ((shr64 a n:Nat):Int)):=by
 rw[shift_shr _ _ _ _ (by omega) (by simp[IntKind.bits];omega)]
 simp[shr64]
attribute [local go_sem ↓] shr64_op
def zerosN(n:Nat):Nat:=(119-n%64)%64
def cntF(n k:Nat):Nat:=shr64 (n*8) (8*(7-k))%256
def enL(n k:Nat):List Nat:=(128 :: rep (zerosN n))++fin1 (cntF n) k (rep 8)
def endL(n:Nat):List Nat:=(128 :: rep (zerosN n))++(List.range 8).map (cntF n)
theorem enL_length(n k:Nat)(hk:k≤8):(enL n k).length=1+zerosN n+8:=by
 have:=fin1_length (f:=cntF n) (k:=k) (s:=rep 8) (by simpa using hk)
 simp[enL,this];omega
theorem enL_step(n k:Nat):spl (enL n k) (1+zerosN n+k) [cntF n k]=enL n (k+1):=by
 have:=spl_right (128 :: rep (zerosN n)) (fin1 (cntF n) k (rep 8)) k [cntF n k]
 rw[fin1_step,List.length_cons,rep_length,Nat.add_comm (zerosN n) 1]at this
 exact this
theorem enL_zero(n:Nat):spl (rep (1+zerosN n+8)) 0 [128]=enL n 0:=by
 unfold enL
 rw[fin1_zero]
 unfold spl rep
 rw[List.take_zero,List.nil_append,List.drop_replicate]
 show 128 :: List.replicate _ 0=128 :: (List.replicate (zerosN n) 0++List.replicate 8 0)
 rw[List.replicate_append_replicate]
 congr 2
 simp;omega
theorem enL_end(n:Nat):enL n 8=endL n:=by
 unfold enL endL
 rw[fin1_end (by simp)]
theorem endL_length(n:Nat):(endL n).length=1+zerosN n+8:=by rw[←enL_end,enL_length _ _ (Nat.le_refl _)]
set_option maxRecDepth 100000 in
set_option maxHeartbeats 1000000 in
theorem ending_any(n:Nat)(hn:n≤1099511627776)(w:World) :
  Calls Tryz.prog 146 #[.int .i64 n] w fun e w'=>e=.returned (.string (mkS (endL n)))∧Grows w w':=by
 have hmk:(Tryz.prog.info? 5).map (fun i=>(i.zero,i.size,i.bytes))=some (some (.int .u8 0),1,1):=by kernel_rfl
 have hz5:zeroOf Tryz.prog 5=.int .u8 0:=by kernel_rfl
 obtain⟨r,hr⟩:∃r:Nat,(n:Int)%64=r:=⟨n%64,by omega⟩
 obtain⟨z,hz⟩:∃z:Nat,zerosN n=z:=⟨_,rfl⟩
 have hz0:(119-(r:Int))%64=z:=by rw[←hz];unfold zerosN;omega
 have hz63:z≤63:=by rw[←hz];unfold zerosN;omega
 obtain⟨a,ha⟩:∃a:Nat,1+z=a:=⟨_,rfl⟩
 obtain⟨c,hc⟩:∃c:Nat,a+8=c:=⟨_,rfl⟩
 have hai:1+(z:Int)=a:=by omega
 have hci:(a:Int)+8=c:=by omega
 have ha1:1≤a:=by omega
 have hc72:c≤72:=by omega
 have hac:a≤c:=by omega
 have hc0:0<c:=by omega
 have hcb:c≤140737488355328:=by omega
 obtain⟨m,hm⟩:∃m:Nat,n*8=m:=⟨_,rfl⟩
 have hm1:(n:Int)*8=m:=by omega
 have hc8:a+8≤c:=by omega
 have hc9:c≤a+8:=by omega
 have hmw:IntKind.u64.wrap (m:Int)=m:=by
  have:m<18446744073709551616:=by omega
  simp only[IntKind.wrap,IntKind.bits,IntKind.signed];simp;omega
 have E0:=Lib.hid (enL_zero n)
 have ES:=Lib.hid (enL_step n)
 have EL:=Lib.hid (enL_length n)
 have EE:=Lib.hid (enL_end n)
 have EC:=Lib.hid (show ∀k,cntF n k=shr64 m (8*(7-k))%256 from fun k=>by unfold cntF;rw[hm])
 rw[hz,ha,hc]at E0 EL
 rw[hz,ha]at ES
 clear hz ha hc hm
 refine calls_wd ?_
 go_enter Tryz.func146,Tryz.ntmps146
 go_wp2
 rw[E0.out]
 go_loopw [4,22] (fun q i wr=>∃(k:Nat) (g:List Obj),k≤8∧i=.int .i64 k∧q=.slice (some ⟨w.heap.size,0,none⟩) (a+k) c∧wr=Wd w (.cells (cv .u8 (enL n k)) 5 (0,0) :: g) w.drawn) (fun _ i _=>8-(intOf i).toNat)
 case atStart=>exact⟨0,[],by omega,rfl,rfl,rfl⟩
 case round =>
  obtain⟨k,g,hk,rfl,rfl,rfl⟩:=hrel
  have hl:=EL.out k hk
  by_cases hlt:k<8
  ·obtain⟨s,hs⟩:∃s:Nat,8*(7-k)=s:=⟨_,rfl⟩
   have hsi:8*(7-(k:Int))=s:=by omega
   have hs64:s≤64:=by omega
   have hst:=ES.out k
   rw[EC.out k,hs]at hst
   have hst':=Lib.hid hst
   have hb:=wrap8 (shr64 m s)
   generalize shr64 m s%256=y at *
   clear hst hs
   have hroom:a+k+1≤c:=by omega
   go_wp2
   go_roundw
   case rel=>exact⟨k+1,_,by omega,by go_num,rfl,by rw[hst'.out]⟩
   case measure=>simp[intOf];omega
  ·obtain rfl:k=8:=by omega
   go_wp2
   go_ret
   exact⟨by rw[EE.out];rfl,Grows.of _ _ _⟩
end Go.Proofs.YtlogjpmdfimgdaaGreatDoor.Jf.Sm
namespace Go.Proofs.YtlogjpmdfimgdaaGreatDoor.Jf.Sm
open Go.RowKit Go.Own.Jf
def chain(x:List Nat):Nat→List Nat
 |0=>startL
 |k+1=>pressF (chain x k) ((x.drop (64*k)).take 64)
theorem chain_append(x y:List Nat):∀k,64*k≤x.length→chain (x++y) k=chain x k
 |0,_=>rfl
 |k+1,h=>by
  rw[chain,chain,chain_append x y k (by omega),List.drop_append_of_le_length (by omega),List.take_append_of_le_length (by simp;omega)]
structure Tal(x st bl:List Nat):Prop where
 st8:st.length=8
 bl64:bl.length=64
 b8:B8 bl
 words:st=chain x (x.length/64)
 rest:bl.take (x.length%64)=x.drop (64*(x.length/64))
theorem Tal.start:Tal [] startL (rep 64):=⟨rfl,rfl,B8.rep _,rfl,rfl⟩
theorem take_spl{s x:List Nat}{o:Nat}(h:o+x.length≤s.length):(spl s o x).take (o+x.length)=s.take o++x:=by
 unfold spl
 rw[List.take_append_of_le_length (by simp;omega),List.take_of_length_le (by simp;omega)]
theorem Tal.less{x st bl s:List Nat}(h:Tal x st bl)(h8:B8 s)(hl:x.length%64+s.length<64):Tal (x++s) st (spl bl (x.length%64) s):=by
 have e1:(x++s).length/64=x.length/64:=by rw[List.length_append];omega
 have e2:(x++s).length%64=x.length%64+s.length:=by rw[List.length_append];omega
 refine⟨h.st8,by rw[spl_length _ _ _ (by rw[h.bl64];omega),h.bl64],h.b8.spl h8 _,?_,?_⟩
 ·rw[e1,chain_append _ _ _ (by omega)];exact h.words
 ·rw[e1,e2,take_spl (by rw[h.bl64];omega),h.rest,List.drop_append_of_le_length (by omega)]
theorem Tal.full{x st bl s:List Nat}(h:Tal x st bl)(h8:B8 s)(hl:x.length%64+s.length=64):Tal (x++s) (pressF st (spl bl (x.length%64) s)) (spl bl (x.length%64) s):=by
 have e1:(x++s).length/64=x.length/64+1:=by rw[List.length_append];omega
 have e2:(x++s).length%64=0:=by rw[List.length_append];omega
 have e3:spl bl (x.length%64) s=(x++s).drop (64*(x.length/64)):=by
  have:=take_spl (s:=bl) (x:=s) (o:=x.length%64) (by rw[h.bl64];omega)
  rw[hl,List.take_of_length_le (by rw[spl_length _ _ _ (by rw[h.bl64];omega),h.bl64];exact Nat.le_refl _),h.rest]at this
  rw[this,List.drop_append_of_le_length (by omega)]
 refine⟨pressF_length _ _,by rw[spl_length _ _ _ (by rw[h.bl64];omega),h.bl64],h.b8.spl h8 _,?_,?_⟩
 ·rw[e1,chain,chain_append _ _ _ (by omega),←h.words,e3,List.take_of_length_le]
  rw[List.length_drop,List.length_append];omega
 ·rw[e1,e2,List.take_zero,List.drop_of_length_le]
  rw[List.length_append];omega
def Turned(l:List Obj)(i:Nat)(X:Obj)(L:List Obj):Prop:=i<l.length∧∃g,L=l.set i X++g
theorem Turned.get{l L:List Obj}{i:Nat}{X:Obj}(h:Turned l i X L):L[i]?=some X:=by
 obtain⟨hi,g,rfl⟩:=h
 rw[List.getElem?_append_left (by simpa using hi)]
 simp[hi]
theorem Turned.lt{l L:List Obj}{i:Nat}{X:Obj}(h:Turned l i X L):i<L.length:=by
 obtain⟨hi,g,rfl⟩:=h
 simp;omega
theorem Turned.set{l L:List Obj}{i:Nat}{X:Obj}(h:Turned l i X L)(Y:Obj):Turned l i Y (L.set i Y):=by
 obtain⟨hi,g,rfl⟩:=h
 exact⟨hi,g,by rw[List.set_append_left _ _ (by simpa using hi),List.set_set]⟩
theorem Turned.more{l L:List Obj}{i:Nat}{X:Obj}(h:Turned l i X L)(g:List Obj):Turned l i X (L++g):=by
 obtain⟨hi,g',rfl⟩:=h
 exact⟨hi,g'++g,by rw[List.append_assoc]⟩
theorem Turned.self{l:List Obj}{i:Nat}{X:Obj}(h:l[i]?=some X):Turned l i X l:=by
 obtain⟨hi,hx⟩:=List.getElem?_eq_some_iff.1 h
 exact⟨hi,[],by rw[List.append_nil,←hx,List.set_getElem_self]⟩
theorem bys_take_add(s:ByteArray)(n:Nat):(bys s).take n++bys (s.extract n s.size)=bys s:=by
 rw[bys_extract,List.take_of_length_le (l:=(bys s).drop n) (by rw[List.length_drop,bys_length];exact Nat.le_refl _),List.take_append_drop]
attribute [local go_sem] ag230 ag232 ag245 ag195 ag5 ag3 cs230 cs232 cs245 cs195 cs5 cs3 sz230 sz232 sz245 sz195 sz5 sz3 isa195 isa5 isa3 z230 z245 ag234 cs234 sz234 z234 ldX_st ldX_bl ldX_n ldX_tc stX_st stX_n stX_tc cpX_tc
def Added(w:World)(l:List Obj)(i:Nat)(x:List Nat)(w':World):Prop :=
 ∃st bl L d,Tal x st bl∧Turned l i (.cells (tc st bl x.length) 234 (0,0)) L∧w'=Wd w L d
set_option maxRecDepth 100000 in
set_option maxHeartbeats 2000000 in
theorem add_any(w:World)(hR:Roots w)(l:List Obj)(d i:Nat)(x st bl:List Nat)(s:ByteArray)(hT:Tal x st bl)(hi:l[i]?=some (.cells (tc st bl x.length) 234 (0,0)))(hb:x.length+s.size≤1099511627776) :
  Calls Tryz.prog 129 #[.pointer (some ⟨w.heap.size+i,0,none⟩),.string s] (Wd w l d) fun e w'=>e=.returned (.pointer (some ⟨w.heap.size+i,0,none⟩))∧Added w l i (x++bys s) w':=by
 have HR:=Lib.hid hR;clear hR
 have HT:=Lib.hid hT;clear hT
 have HI:=Lib.hid (Turned.self hi);clear hi
 have hbs:=Lib.hid (bys_length s)
 go_enter Tryz.func129,Tryz.ntmps129
 go_wp2
 go_loopw [1] (fun v wr=>∃(y:ByteArray) (p st bl:List Nat) (L:List Obj) (d n:Nat),v=.string y∧Hid (p++bys y=bys s)∧Hid (Tal (x++p) st bl)∧Hid ((x++p).length=n)∧Hid (Turned l i (.cells (tc st bl n) 234 (0,0)) L)∧wr=Wd w L d) (fun v _=>match v with | .string y=>y.size | _=>0)
 case atStart=>exact⟨s,[],st,bl,l,d,x.length,rfl,Lib.hid rfl,by rw[List.append_nil];exact HT,by rw[List.append_nil];exact Lib.hid rfl,HI,rfl⟩
 case round =>
  clear HT HI
  obtain⟨y,p,st,bl,L,d,n,rfl,hp,hT,hn,hL,rfl⟩:=hrel
  by_cases hy:y.size=0
  ·have hy0:(y.size:Int)≤0:=by omega
   have hfin:Hid (Tal (x++bys s) st bl):=by
    have hby:bys y=[]:=List.length_eq_zero_iff.1 (by rw[bys_length,hy])
    have:=hp.out
    rw[hby,List.append_nil]at this
    rw[←this];exact hT
   have hlen:Hid ((x++bys s).length=n):=by
    have hby:bys y=[]:=List.length_eq_zero_iff.1 (by rw[bys_length,hy])
    have:=hp.out
    rw[hby,List.append_nil]at this
    rw[←this];exact hn
   clear hy
   go_wp2
   go_ret
   exact⟨rfl,st,bl,L,d,hfin.out,by rw[hlen.out];exact hL.out,rfl⟩
  ·have hy1:0<(y.size:Int):=by omega
   have hlen:n+y.size≤1099511627776:=by
    have h1:=congrArg List.length hp.out
    have h2:=hn.out
    have h3:=bys_length y
    have h4:=hbs.out
    simp only[List.length_append]at h1 h2
    omega
   have hLi:=hL.out.get
   have HLT:=Lib.hid hL.out.lt
   have hs8:=hT.out.st8
   have hb64:=hT.out.bl64
   obtain⟨o,ho⟩:∃o,n%64=o:=⟨_,rfl⟩
   have ho1:(n:Int).tmod 64=(o:Int):=by rw[Int.tmod_eq_emod_of_nonneg (by omega)];omega
   have ho2:(o:Int)≤64:=by omega
   have ho3:o+(64-o)≤64:=by omega
   have ho4:o<64:=by omega
   obtain⟨m,hm⟩:∃m,cpn (64-o) y.size=m:=⟨_,rfl⟩
   have hm1:m≤y.size:=by rw[←hm];exact Nat.min_le_left _ _
   have hm2:m≤64-o:=by rw[←hm];exact Nat.min_le_right _ _
   have hm3:m=y.size∨m=64-o:=by
    rw[←hm];show min y.size (64-o)=_∨min y.size (64-o)=_;omega
   have hm0:0<m:=by omega
   obtain⟨n2,hn2⟩:∃n2:Nat,n+m=n2:=⟨_,rfl⟩
   have hnm:(n:Int)+(m:Int)=(n2:Int):=by omega
   have hmi:(m:Int)≤y.size:=by omega
   obtain⟨T,hTk⟩:∃T,(bys y).take (64-o)=T:=⟨_,rfl⟩
   have hTm:(bys y).take m=T:=by
    have hby:=bys_length y
    rw[←hTk]
    rcases hm3 with h | h
    ·rw[List.take_of_length_le (by omega),List.take_of_length_le (by omega)]
    ·rw[h]
   have HTL:Hid (T.length=m):=Lib.hid (by rw[←hTm,List.length_take,bys_length];omega)
   have HB:Hid (T++bys (y.extract m y.size)=bys y):=Lib.hid (by rw[←hTm];exact bys_take_add y m)
   have HB8:Hid (B8 T):=Lib.hid (by rw[←hTk];exact(B8.bys y).take _)
   obtain⟨bl2,hbl2⟩:∃bl2,spl bl o T=bl2:=⟨_,rfl⟩
   have hb2:bl2.length=64:=by rw[←hbl2,spl_length _ _ _ (by rw[HTL.out];omega),hb64]
   have hS:∀A:Obj,(L.set i A)[i]?=some A:=fun A=>by simp[HLT.out]
   have HO:=Lib.hid ho
   have HN2:=Lib.hid hn2
   have hxn:=hn.out
   have HTX:Hid ((x++p).length%64=o):=Lib.hid (by rw[hn.out];exact ho)
   have HP:Hid ((p++T)++bys (y.extract m y.size)=bys s):=Lib.hid (by rw[List.append_assoc,HB.out];exact hp.out)
   have HNN:Hid ((x++(p++T)).length=n2):=Lib.hid (by rw[←List.append_assoc,List.length_append,hn.out,HTL.out];exact hn2)
   have HSZ:Hid ((y.extract m y.size).size<y.size):=Lib.hid (by simp;omega)
   clear ho hn2 hTm hxn
   by_cases hf:o+m=64
   ·have HTF:Hid (Tal (x++(p++T)) (pressF st bl2) bl2):=Lib.hid (by
     have:=hT.out.full HB8.out (by rw[HTX.out,HTL.out];exact hf)
     rw[HTX.out,hbl2,List.append_assoc]at this
     exact this)
    have hz:(n2:Int)%64=0:=by
     have:=HN2.out;have:=HO.out;omega
    have hb82:=Lib.hid HTF.out.b8
    clear hf hm3
    go_wp2
    refine wp_region_tail 10 (by kernel_rfl) (by kernel_rfl) ?_
    simp only[List.take_succ_cons,List.take_zero,List.drop_succ_cons,List.drop_zero]
    repeat still_step
    refine wpStill_nil ?_
    go_wp2
    have hL2:=hL.out.set (.cells (tc st bl2 n2) 234 (0,0))
    generalize L.set i (.cells (tc st bl2 n2) 234 (0,0))=L2 at *
    have HL2:=Lib.hid hL2
    clear hS hLi hL2
    have hA:∀g,(L2++g)[i]?=some (.cells (tc st bl2 n2) 234 (0,0)):=fun g=>(HL2.out.more g).get
    have hA0:L2[i]?=some (.cells (tc st bl2 n2) 234 (0,0)):=HL2.out.get
    have hpl:=pressF_length st bl2
    have hAS:∀(g:List Obj) (A:Obj),(L2++g).set i A=L2.set i A++g:=fun g A=>List.set_append_left _ _ HL2.out.lt
    refine wp_region_more 12 (by kernel_rfl) (by kernel_rfl) ?_
    simp only[List.take_succ_cons,List.take_zero,List.drop_succ_cons,List.drop_zero]
    repeat (first | (refine more_step (fun K hK=>?_);go_simp;refine hK _ ?_;clear hK K) | (refine more_step (fun K hK=>?_);go_simp;(with_reducible refine⟨_,fun g e=>more_call (g:=g) (e:=e) (fun g m=>List.append_assoc _ _ _) (press_any st bl2 hs8 hb2 hb82.out _ (HR.out.wd _ _)),hK _ ?_⟩);clear hK K))
    refine wpQuiet_nil ?_
    intro g3 e3
    go_wp2
    have hL3:=Lib.hid ((HL2.out.set (.cells (tc (pressF st bl2) bl2 n2) 234 (0,0))).more g3)
    go_roundw
    case rel=>exact⟨_,p++T,pressF st bl2,bl2,_,_,n2,rfl,HP,HTF,HNN,hL3,rfl⟩
    case measure=>exact HSZ.out
   ·have HTF:Hid (Tal (x++(p++T)) st bl2):=Lib.hid (by
     have:=hT.out.less HB8.out (by rw[HTX.out,HTL.out];omega)
     rw[HTX.out,hbl2,List.append_assoc]at this
     exact this)
    have hz:((n2:Int)%64 == 0)=false:=by
     have:=HN2.out;have:=HO.out
     rw[beq_eq_false_iff_ne];omega
    clear hf hm3
    go_wp2
    refine wp_region_tail 10 (by kernel_rfl) (by kernel_rfl) ?_
    simp only[List.take_succ_cons,List.take_zero,List.drop_succ_cons,List.drop_zero]
    repeat still_step
    refine wpStill_nil ?_
    go_wp2
    have hL2:=Lib.hid (hL.out.set (.cells (tc st bl2 n2) 234 (0,0)))
    go_roundw
    case rel=>exact⟨_,p++T,st,bl2,_,_,n2,rfl,HP,HTF,HNN,hL2,rfl⟩
    case measure=>exact HSZ.out
end Go.Proofs.YtlogjpmdfimgdaaGreatDoor.Jf.Sm
namespace Go.Proofs.YtlogjpmdfimgdaaGreatDoor.Jf.Sm
open Go.RowKit Go.Own.Jf
theorem alX_mix{P:Program}{T:TypeId}{w:World}{l:List Obj}{d:Nat}{st bl:List Nat}{n:Nat}(h:zeroOf P T=.agg (tc st bl n)) :
  alX P T (.agg (tc st bl n)) w l d=.ok (.pointer (some ⟨w.heap.size+l.length,0,none⟩)) (Wd w (l++[.cells (tc st bl n) T (0,0)]) d):=by
 simp[alX,alN,Instr.alloc,run_zeroOf h,newVar,newRow,Value.cells,Wd_size,Wd_alloc]
attribute [local go_sem] ag230 ag232 ag245 ag195 ag5 ag3 cs230 cs232 cs245 cs195 cs5 cs3 sz230 sz232 sz245 sz195 sz5 sz3 isa195 isa5 isa3 z230 z245 ag234 cs234 sz234 z234 ldX_st ldX_bl ldX_n ldX_tc stX_st stX_n stX_tc alX_mix
def digL(x:List Nat):List Nat:=textL (chain (x++endL x.length) ((x++endL x.length).length/64))
theorem digL_length(x:List Nat):(digL x).length=32:=textL_length _
theorem endL_B8(n:Nat):B8 (endL n):=by
 refine B8.append (fun y hy=>?_) (B8.map (fun _=>Nat.mod_lt _ (by decide)) _)
 rcases List.mem_cons.1 hy with rfl | h
 ·decide
 ·exact B8.rep _ y h
set_option maxRecDepth 100000 in
set_option maxHeartbeats 1000000 in
theorem sum_any(w:World)(hR:Roots w)(l:List Obj)(d i:Nat)(x st bl:List Nat)(hT:Tal x st bl)(hi:l[i]?=some (.cells (tc st bl x.length) 234 (0,0)))(hb:x.length≤1099511600000) :
  Calls Tryz.prog 130 #[.pointer (some ⟨w.heap.size+i,0,none⟩)] (Wd w l d) fun e w'=>e=.returned (.string (mkS (digL x)))∧∃g d',w'=Wd w (l++g) d':=by
 have HR:=Lib.hid hR;clear hR
 have HT:=Lib.hid hT;clear hT
 have HI:=Lib.hid hi
 have hs8:=HT.out.st8
 have hb64:=HT.out.bl64
 obtain⟨n,hn⟩:∃n,x.length=n:=⟨_,rfl⟩
 have HN:=Lib.hid hn
 rw[hn]at hi hb HI
 clear hn
 have hA:∀g,(l++g)[i]?=some (.cells (tc st bl n) 234 (0,0)):=fun g=>by
  rw[List.getElem?_append_left (List.getElem?_eq_some_iff.1 HI.out).1];exact HI.out
 go_enter Tryz.func130,Tryz.ntmps130
 go_wp2_with fail
 refine(ending_any n (by omega) _).mono ?_
 rintro e w' ⟨rfl,g,d',rfl⟩
 rw[Wd_wd]
 go_wp2_with fail
 refine(add_any w HR.out _ _ l.length x st bl _ HT.out ?hc ?hl).mono ?_
 case hc=>rw[HN.out];simp
 case hl=>rw[HN.out,mkS_size,endL_length];unfold zerosN;omega
 rintro e w' ⟨rfl,st2,bl2,L,d2,hT2,hL,rfl⟩
 rw[bys_mkS _ (endL_B8 n)]at hT2 hL
 have HD:Hid (digL x=textL st2):=Lib.hid (by unfold digL;rw[HN.out,←hT2.words])
 have hs2:=hT2.st8
 have hb2:=hT2.bl64
 have hLi:=hL.get
 have HLG:Hid (∃g,L=l++g):=by
  obtain⟨_,g2,rfl⟩:=hL
  exact⟨_,by rw[List.set_append_right _ _ (Nat.le_refl _),List.append_assoc]⟩
 clear hT2 hL hs8 hb64 hi hA
 generalize (x++endL n).length=n2 at *
 go_wp2_with fail
 refine(text_any st2 hs2 _).mono ?_
 rintro e w' ⟨rfl,g3,d3,rfl⟩
 rw[Wd_wd]
 go_wp2
 go_ret
 refine⟨by rw[HD.out];rfl,?_⟩
 obtain⟨g4,hg4⟩:=HLG.out
 exact⟨g4++g3,_,by rw[hg4,List.append_assoc]⟩
def accF(a b:List Nat):Nat→Nat
 |0=>0
 |k+1=>or8 (accF a b k) (xor8 (gi a k) (gi b k))
theorem or8_zero{x y:Nat}(hx:x<256)(hy:y<256):or8 x y=0↔x=0∧y=0:=by
 have h:x ||| y<256:=Nat.or_lt_two_pow (n:=8) hx hy
 unfold or8
 rw[Nat.mod_eq_of_lt h]
 exact Nat.or_eq_zero_iff
theorem xor8_zero{x y:Nat}(hx:x<256)(hy:y<256):xor8 x y=0↔x=y:=by
 have h:x ^^^ y<256:=Nat.xor_lt_two_pow (n:=8) hx hy
 unfold xor8
 rw[Nat.mod_eq_of_lt h]
 constructor
 ·intro e
  have:=congrArg (· ^^^ y) e
  simpa [Nat.xor_assoc]using this
 ·rintro rfl;exact Nat.xor_self _
theorem accF_lt(a b:List Nat):∀k,accF a b k<256
 |0=>by show 0<256;decide
 |_+1=>Nat.mod_lt _ (by decide)
theorem accF_zero(a b:List Nat)(ha:B8 a)(hb:B8 b):∀k,accF a b k=0↔∀j,j<k→gi a j=gi b j
 |0=>by simp[accF]
 |k+1=>by
  rw[accF,or8_zero (accF_lt _ _ _) (show xor8 _ _<256 from Nat.mod_lt _ (by decide)),accF_zero a b ha hb k,xor8_zero (ha.gi _) (hb.gi _)]
  constructor
  ·rintro⟨h1,h2⟩ j hj
   by_cases e:j=k
   ·rw[e];exact h2
   ·exact h1 j (by omega)
  ·intro h
   exact⟨fun j hj=>h j (by omega),h k (by omega)⟩
theorem gi_ext{s t:List Nat}(hl:s.length=t.length)(h:∀i,i<s.length→gi s i=gi t i):s=t:=by
 apply List.ext_getElem hl
 intro i h1 h2
 have:=h i h1
 simpa [gi,List.getD,h1,h2]using this
theorem gi_at{t:ByteArray}{i:Nat}(h:i<t.size):gi (bys t) i=t[i].toNat:=by
 have h3:i<t.data.size:=h
 simp only[gi,bys,List.getD_eq_getElem?_getD,List.getElem?_map]
 rw[List.getElem?_eq_getElem (by simpa using h3)]
 rfl
def sameB(a b:ByteArray):Bool:=decide (a=b)
theorem sameB_iff(a b:ByteArray)(hl:a.size=b.size):(((accF (bys a) (bys b) a.size:Nat):Int) == 0)=sameB a b:=by
 unfold sameB
 rw[Bool.eq_iff_iff,beq_iff_eq,decide_eq_true_iff]
 have h0:((accF (bys a) (bys b) a.size:Nat):Int)=0↔accF (bys a) (bys b) a.size=0:=by omega
 rw[h0,accF_zero _ _ (B8.bys a) (B8.bys b)]
 constructor
 ·intro h
  exact bys_inj (gi_ext (by rw[bys_length,bys_length,hl]) (by rw[bys_length];exact h))
 ·rintro rfl j _;rfl
set_option maxRecDepth 100000 in
theorem equal_ne(a b:ByteArray)(hl:a.size≠b.size)(w:World) :
  Calls Tryz.prog 99 #[.string a,.string b] w fun e w'=>e=.returned (.bool (sameB a b))∧Grows w w':=by
 have hz:sameB a b=false:=by
  unfold sameB
  exact decide_eq_false (fun h=>hl (by rw[h]))
 have hb:((a.size:Int) != b.size)=true:=by simp;omega
 have HZ:=Lib.hid hz
 clear hl hz
 go_enter Tryz.func99,Tryz.ntmps99
 go_wp2
 go_ret
 exact⟨by rw[HZ.out];rfl,Grows.refl _⟩
theorem ixS(t:ByteArray)(k:IntKind)(i:Nat)(W:World)(h1:i<t.size) :
  (ixN 9 (.string t) (.int k (i:Int))).run Tryz.prog W=.ok (.int .u8 ((gi (bys t) i:Nat):Int)) W:=by
 rw[gi_at h1]
 unfold ixN
 rw[run_index_string W 9 t k i Tryz.underlying9,dif_pos ⟨by omega,by omega⟩]
 simp
attribute [local go_sem] ixS
set_option maxRecDepth 100000 in
set_option maxHeartbeats 1000000 in
theorem equal_eq(a b:ByteArray)(hl:a.size=b.size)(hm:a.size≤1099511627776)(w:World) :
  Calls Tryz.prog 99 #[.string a,.string b] w fun e w'=>e=.returned (.bool (sameB a b))∧Grows w w':=by
 have hb:((a.size:Int) != b.size)=false:=by simp;omega
 have HZ:=Lib.hid (sameB_iff a b hl)
 have HL:=Lib.hid hl
 clear hl
 refine calls_wd ?_
 go_enter Tryz.func99,Tryz.ntmps99
 go_wp2
 go_loopw [5,14] (fun u i wr=>∃k d:Nat,k≤a.size∧i=.int .i64 k∧u=.int .u8 (accF (bys a) (bys b) k:Nat)∧wr=Wd w [] d) (fun _ i _=>a.size-(intOf i).toNat)
 case atStart=>exact⟨0,_,by omega,rfl,rfl,rfl⟩
 case round =>
  obtain⟨k,d,hk,rfl,rfl,rfl⟩:=hrel
  by_cases hlt:k<a.size
  ·have hn:Hid (accF (bys a) (bys b) (k+1)=or8 (accF (bys a) (bys b) k) (xor8 (gi (bys a) k) (gi (bys b) k))):=rfl
   have hlt2:k<b.size:=by rw[←HL.out];exact hlt
   go_wp2
   refine wp_region_read (by kernel_rfl) (by kernel_rfl) ?_
   repeat still_step
   refine wpStill_nil ?_
   go_wp2
   go_roundw
   case rel=>exact⟨k+1,_,by omega,by go_num,by rw[hn.out],rfl⟩
   case measure=>simp[intOf];omega
  ·obtain rfl:k=a.size:=by omega
   have hz:=HZ.out
   go_wp2
   go_ret
   exact⟨rfl,Grows.of _ _ _⟩
theorem equal_any(a b:ByteArray)(hm:a.size≤1099511627776)(w:World) :
  Calls Tryz.prog 99 #[.string a,.string b] w fun e w'=>e=.returned (.bool (sameB a b))∧Grows w w':=by
 by_cases hl:a.size=b.size
 ·exact equal_eq a b hl hm w
 ·exact equal_ne a b hl w
end Go.Proofs.YtlogjpmdfimgdaaGreatDoor.Jf.Sm
namespace Go.Proofs.YtlogjpmdfimgdaaGreatDoor.Jf.Sm
open Go.RowKit Go.Own.Jf
def allB(ss:List ByteArray):List Nat:=ss.flatMap bys
theorem isa9(w:World):(isAgg 9).run Tryz.prog w=.ok false w:=by kernel_rfl
theorem ag9:aggSize Tryz.prog 9=none:=by kernel_rfl
theorem ldX_some{P:Program}{T:TypeId}{b o:Nat}{W:World}{c:Array Value}{t:TypeId}{f:Nat×Nat}(ha:(isAgg T).run P W=.ok false W)
  (h2:blk W b=some (.cells c t f)) (h3:(c[o]?).isSome=true) :
  ldX P T none (some (.cells c t f)) b o W=.ok ((c[o]?).getD undef) W:=by
 obtain⟨v,hv⟩:=Option.isSome_iff_exists.1 h3
 rw[ldX_mix1 ha h2 hv,hv];rfl
def Parts(w:World)(p:Option Addr)(ss:List ByteArray):Prop :=
 ∀(j:Nat) (s:ByteArray),ss[j]?=some s→∃(b:Nat) (c:Array Value) (t:TypeId) (f:Nat×Nat),p=some ⟨b,0,none⟩∧blk w b=some (.cells c t f)∧c[j]?=some (Value.string s)
theorem allB_succ(ss:List ByteArray)(k:Nat)(s:ByteArray)(h:ss[k]?=some s):allB (ss.take (k+1))=allB (ss.take k)++bys s:=by
 unfold allB
 rw[List.take_add_one,h]
 simp
theorem allB_le(ss:List ByteArray)(k:Nat):(allB (ss.take k)).length≤(allB ss).length:=by
 have:allB ss=allB (ss.take k)++allB (ss.drop k):=by unfold allB;rw[←List.flatMap_append,List.take_append_drop]
 rw[this,List.length_append];omega
attribute [local go_sem] isa9 ag9 ldX_some
set_option maxRecDepth 100000 in
set_option maxHeartbeats 1000000 in
theorem of_any(w:World)(hR:Roots w)(p:Option Addr)(cap:Nat)(ss:List ByteArray)(hP:Parts w p ss)(hb:(allB ss).length≤1099511600000)(hl:ss.length≤1099511627776) :
  Calls Tryz.prog 100 #[.slice p ss.length cap] w fun e w'=>e=.returned (.string (mkS (digL (allB ss))))∧Grows w w':=by
 have HR:=Lib.hid hR;clear hR
 have HP:=Lib.hid hP;clear hP
 have HB:=Lib.hid hb;clear hb
 obtain⟨n,hn⟩:∃n,ss.length=n:=⟨_,rfl⟩
 have HN:=Lib.hid hn
 rw[hn]at hl ⊢
 clear hn
 refine calls_wd ?_
 go_enter Tryz.func100,Tryz.ntmps100
 go_wp2_with fail
 refine(new_any w [] _).mono ?_
 rintro e w' ⟨g,d,rfl,rfl⟩
 obtain⟨j,hj⟩:∃j,([]:List Obj).length+g.length=j:=⟨_,rfl⟩
 have hget:([]++g++[Obj.cells (tc startL (rep 64) 0) 234 (0,0)])[j]?=some (.cells (tc startL (rep 64) 0) 234 (0,0)):=by
  rw[←hj];simp
 have HG:=Lib.hid hget
 rw[hj]
 clear hget hj
 generalize []++g++[Obj.cells (tc startL (rep 64) 0) 234 (0,0)]=L0 at *
 go_wp2
 go_loopw [9] (fun i wr=>∃(k:Nat) (st bl:List Nat) (L:List Obj) (d:Nat),k≤n∧i=.int .i64 k∧Hid (Tal (allB (ss.take k)) st bl)∧Hid (L[j]?=some (.cells (tc st bl (allB (ss.take k)).length) 234 (0,0)))∧wr=Wd w L d) (fun i _=>n-(intOf i).toNat)
 case atStart=>exact⟨0,startL,rep 64,L0,d,by omega,rfl,Lib.hid Tal.start,HG,rfl⟩
 case round =>
  clear HG
  obtain⟨k,st,bl,L,d,hk,rfl,hT,hL,rfl⟩:=hrel
  by_cases hlt:k<n
  ·obtain⟨s,hs⟩:∃s,ss[k]?=some s:=⟨_,List.getElem?_eq_getElem (by rw[HN.out];exact hlt)⟩
   obtain⟨b,c,t,f,rfl,hblk,hc⟩:=HP.out k s hs
   have HS:=Lib.hid (allB_succ ss k s hs)
   have HK:=Lib.hid (allB_le ss (k+1))
   clear hs
   have hW:∀(l:List Obj) (d:Nat),blk (Wd w l d) b=some (.cells c t f):=fun l d=>blk_old _ _ _ _ hblk
   clear hblk
   have hki:(k:Int)<n:=by omega
   go_wp2_with fail
   refine(add_any w HR.out L d j (allB (ss.take k)) st bl s hT.out hL.out ?hl).mono ?_
   case hl =>
    have h1:=HK.out
    have h2:=HB.out
    rw[HS.out,List.length_append,bys_length]at h1
    omega
   rintro e w' ⟨rfl,st2,bl2,L2,d2,hT2,hL2,rfl⟩
   have HT2:Hid (Tal (allB (ss.take (k+1))) st2 bl2):=by rw[HS.out];exact Lib.hid hT2
   have HL2:Hid (L2[j]?=some (.cells (tc st2 bl2 (allB (ss.take (k+1))).length) 234 (0,0))):=by rw[HS.out];exact Lib.hid hL2.get
   clear hT2 hL2
   go_wp2
   go_roundw
   case rel=>exact⟨k+1,st2,bl2,L2,d2,by omega,by go_num,HT2,HL2,rfl⟩
   case measure=>simp[intOf];omega
  ·obtain rfl:k=n:=by omega
   have HA:Hid (allB (ss.take k)=allB ss):=Lib.hid (by rw[List.take_of_length_le (by rw[HN.out];exact Nat.le_refl _)])
   go_wp2_with fail
   refine(sum_any w HR.out L d j (allB (ss.take k)) st bl hT.out hL.out (by rw[HA.out];exact HB.out)).mono ?_
   rintro e w' ⟨rfl,g2,d2,rfl⟩
   rw[HA.out]
   go_wp2
   go_ret
   exact⟨rfl,Grows.of _ _ _⟩
end Go.Proofs.YtlogjpmdfimgdaaGreatDoor.Jf.Sm

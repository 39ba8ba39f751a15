/- The pressing of one block, by contract. | The pressing of one block, by contract. -/
import Derived.Test.YtlogjpmdfimgdaaGreatDoorZ05
import Derived.Test.YtlogjpmdfimgdaaGreatDoorZ06
namespace Go.Proofs.YtlogjpmdfimgdaaGreatDoor.Jf.Sm
open Go.RowKit Go.Own.Jf
theorem ag230:aggSize Tryz.prog 230=some 8:=by kernel_rfl
theorem ag232:aggSize Tryz.prog 232=some 64:=by kernel_rfl
theorem ag245:aggSize Tryz.prog 245=some 64:=by kernel_rfl
theorem ag195:aggSize Tryz.prog 195=none:=by kernel_rfl
theorem ag5:aggSize Tryz.prog 5=none:=by kernel_rfl
theorem ag3:aggSize Tryz.prog 3=none:=by kernel_rfl
theorem cs230:Tryz.prog.cellsOf 230=8:=by kernel_rfl
theorem cs232:Tryz.prog.cellsOf 232=64:=by kernel_rfl
theorem cs245:Tryz.prog.cellsOf 245=64:=by kernel_rfl
theorem cs195:Tryz.prog.cellsOf 195=1:=by kernel_rfl
theorem cs5:Tryz.prog.cellsOf 5=1:=by kernel_rfl
theorem cs3:Tryz.prog.cellsOf 3=1:=by kernel_rfl
theorem sz230(w:World):(sizeOf 230).run Tryz.prog w=.ok 8 w:=by kernel_rfl
theorem sz232(w:World):(sizeOf 232).run Tryz.prog w=.ok 64 w:=by kernel_rfl
theorem sz245(w:World):(sizeOf 245).run Tryz.prog w=.ok 64 w:=by kernel_rfl
theorem sz195(w:World):(sizeOf 195).run Tryz.prog w=.ok 1 w:=by kernel_rfl
theorem sz5(w:World):(sizeOf 5).run Tryz.prog w=.ok 1 w:=by kernel_rfl
theorem sz3(w:World):(sizeOf 3).run Tryz.prog w=.ok 1 w:=by kernel_rfl
theorem isa195(w:World):(isAgg 195).run Tryz.prog w=.ok false w:=by kernel_rfl
theorem isa5(w:World):(isAgg 5).run Tryz.prog w=.ok false w:=by kernel_rfl
theorem isa3(w:World):(isAgg 3).run Tryz.prog w=.ok false w:=by kernel_rfl
theorem z230:zeroOf Tryz.prog 230=.agg (cv .u32 (rep 8)):=by kernel_rfl
theorem z245:zeroOf Tryz.prog 245=.agg (cv .u32 (rep 64)):=by kernel_rfl
attribute [local go_sem] ag230 ag232 ag245 ag195 ag5 ag3 cs230 cs232 cs245 cs195 cs5 cs3 sz230 sz232 sz245 sz195 sz5 sz3 isa195 isa5 isa3 z230 z245
set_option maxRecDepth 100000 in
theorem shifted_any(x:Nat)(a b:Int)(c:Nat)(ha1:1≤a)(ha:a≤31)(hb1:1≤b)(hb:b≤31)(hc:c≤31)(w:World) :
  Calls Tryz.prog 160 #[.int .u32 x,.int .i64 a,.int .i64 b,.int .i64 c] w fun e w'=>e=.returned (.int .u32 (shiftedF x a b c))∧Grows w w':=by
 have wa:IntKind.i64.wrap (-a) = -a:=IntWalk.i64_in _ (by omega)
 have wb:IntKind.i64.wrap (-b) = -b:=IntWalk.i64_in _ (by omega)
 have hc2:c≤32:=by omega
 refine calls_wd ?_
 go_enter Tryz.func160,Tryz.ntmps160
 go_wp2
 refine wp_region_still_tail 13 (by kernel_rfl) (by kernel_rfl) ?_
 simp only[List.take_succ_cons,List.take_zero,List.drop_succ_cons,List.drop_zero]
 change wpStill _ _ (Wd _ _ (_+1)) _ _ _
 repeat (first | still_step | (refine wpStill_step (fun K hK=>?_);go_simp;with_reducible refine⟨_,rotl_same x a ha1 ha _,hK _ ?_⟩;clear hK K) | (refine wpStill_step (fun K hK=>?_);go_simp;with_reducible refine⟨_,rotl_same x b hb1 hb _,hK _ ?_⟩;clear hK K))
 refine wpStill_nil ?_
 change wpList _ _ _ _ _ (Wd _ _ (_+1))
 go_wp2
 go_ret
 exact⟨rfl,Grows.of _ _ _⟩
theorem shifted_int(x:Nat)(a b c:Int)(ha1:1≤a)(ha:a≤31)(hb1:1≤b)(hb:b≤31)(hc0:0≤c)(hc:c≤31)(w:World) :
  Calls Tryz.prog 160 #[.int .u32 x,.int .i64 a,.int .i64 b,.int .i64 c] w fun e w'=>e=.returned (.int .u32 (shiftedF x a b c))∧Grows w w':=by
 obtain⟨n,rfl⟩:=Int.eq_ofNat_of_zero_le hc0
 exact shifted_any x a b n ha1 ha hb1 hb (by omega) w
def plusF(s m:List Nat)(i:Nat):Nat:=add32 (gi s i) (gi m i)
def plusL(s m:List Nat):List Nat:=(List.range 8).map (plusF s m)
theorem plusL_length(s m:List Nat):(plusL s m).length=8:=by simp[plusL]
set_option maxRecDepth 100000 in
set_option maxHeartbeats 400000 in
theorem plus_any(x y:List Nat)(hx:x.length=8)(hy:y.length=8)(w:World) :
  Calls Tryz.prog 157 #[.agg (cv .u32 x),.agg (cv .u32 y)] w fun e w'=>e=.returned (.agg (cv .u32 (plusL x y)))∧Grows w w':=by
 refine calls_wd ?_
 go_enter Tryz.func157,Tryz.ntmps157
 go_wp2
 go_loopw [8] (fun i wr=>∃k d:Nat,k≤8∧i=.int .i64 k∧wr=Wd w [.cells (cv .u32 (fin1 (plusF x y) k x)) 230,.cells (cv .u32 y) 230,.cells (cv .u32 (rep 8)) 230] d) (fun i _=>8-(intOf i).toNat)
 case atStart=>exact⟨0,_,by omega,rfl,by rw[fin1_zero]⟩
 case round =>
  obtain⟨k,d,hk,rfl,rfl⟩:=hrel
  by_cases hlt:k<8
  ·have hl:(fin1 (plusF x y) k x).length=8:=by rw[fin1_length (by omega),hx]
   go_wp2
   go_roundw
   case rel=>exact⟨k+1,_,by omega,by go_num,by rw[fin1_gi (Nat.le_refl k),show add32 (gi x k) (gi y k)=plusF x y k from rfl,fin1_step]⟩
   case measure=>simp[intOf];omega
  ·obtain rfl:k=8:=by omega
   have he:=Lib.hid (fin1_end (f:=plusF x y) (n:=8) (s:=x) (by omega))
   have hl:(fin1 (plusF x y) 8 x).length=8:=by rw[fin1_length (by omega),hx]
   go_wp2
   exact ret_cell (i:=2) rfl rfl ag230 rfl hl rfl ⟨by rw[he.out];rfl,Grows.of _ _ _⟩
def wd1(bl:List Nat):Nat→List Nat
 |0=>rep 64
 |k+1=>spl (wd1 bl k) (k/4) [or32 (shl32 (gi (wd1 bl k) (k/4)) 8) (gi bl k)]
def wd2(bl:List Nat):Nat→List Nat
 |0=>wd1 bl 64
 |n+1=>spl (wd2 bl n) (n+16) [add32 (add32 (add32 (shiftedF (gi (wd2 bl n) (n+14)) 17 19 10) (gi (wd2 bl n) (n+9))) (shiftedF (gi (wd2 bl n) (n+1)) 7 18 3)) (gi (wd2 bl n) n)]
theorem wd1_length(bl:List Nat):∀k,k≤64→(wd1 bl k).length=64
 |0,_=>rep_length 64
 |k+1,h=>by
  have:=wd1_length bl k (by omega)
  rw[wd1,spl_length _ _ _ (by rw[this];simp;omega),this]
theorem wd2_length(bl:List Nat):∀n,n≤48→(wd2 bl n).length=64
 |0,_=>wd1_length bl 64 (Nat.le_refl _)
 |n+1,h=>by
  have:=wd2_length bl n (by omega)
  rw[wd2,spl_length _ _ _ (by rw[this];simp;omega),this]
theorem u32_of_u8{n:Nat}(h:n<256):IntKind.u32.wrap (n:Int)=(n:Int):=by rw[wrap32n];congr 1;omega
def widenL(bl:List Nat):List Nat:=wd2 bl 48
theorem widenL_length(bl:List Nat):(widenL bl).length=64:=wd2_length bl 48 (Nat.le_refl _)
set_option maxRecDepth 100000 in
set_option maxHeartbeats 1000000 in
theorem widen_any(bl:List Nat)(hbl:bl.length=64)(h8:B8 bl)(w:World) :
  Calls Tryz.prog 153 #[.agg (cv .u8 bl)] w fun e w'=>e=.returned (.agg (cv .u32 (widenL bl)))∧Grows w w':=by
 have H8:=Lib.hid h8;clear h8
 refine calls_wd ?_
 go_enter Tryz.func153,Tryz.ntmps153
 go_wp2
 go_loopw [8] (fun i wr=>∃k d:Nat,k≤64∧i=.int .i64 k∧wr=Wd w [.cells (cv .u8 bl) 232,.cells (cv .u32 (rep 64)) 245,.cells (cv .u32 (wd1 bl k)) 245] d) (fun i _=>64-(intOf i).toNat)
 case atStart=>exact⟨0,_,by omega,rfl,rfl⟩
 case round =>
  obtain⟨k,d,hk,rfl,rfl⟩:=hrel
  have hl:=wd1_length bl k hk
  by_cases hlt:k<64
  ·have hst:Hid (spl (wd1 bl k) (k/4) [or32 (shl32 (gi (wd1 bl k) (k/4)) 8) (gi bl k)]=wd1 bl (k+1)):=rfl
   have hw:=u32_of_u8 (H8.out.gi k)
   have hq:k/4<64:=by omega
   have hq2:(k:Int)/4<64:=by omega
   go_wp2
   go_roundw
   case rel=>exact⟨k+1,_,by omega,by go_num,by rw[hst.out]⟩
   case measure=>simp[intOf];omega
  ·obtain rfl:k=64:=by omega
   clear hl hlt
   go_wp2
   rw[show ((64:Nat):Int)=64 from rfl]
   go_loopw [6] (fun i wr=>∃(n d:Nat) (g:List Obj),n≤48∧i=.int .i64 ((n:Int)+16)∧wr=Wd w (.cells (cv .u8 bl) 232 :: .cells (cv .u32 (rep 64)) 245 :: .cells (cv .u32 (wd2 bl n)) 245 :: g) d) (fun i _=>64-(intOf i).toNat)
   case atStart=>exact⟨0,_,[],by omega,rfl,rfl⟩
   case round =>
    obtain⟨n,d,g,hn,rfl,rfl⟩:=hrel
    have hl2:=wd2_length bl n hn
    by_cases hlt2:n<48
    ·have hst:Hid (spl (wd2 bl n) (n+16) [add32 (add32 (add32 (shiftedF (gi (wd2 bl n) (n+14)) 17 19 10) (gi (wd2 bl n) (n+9))) (shiftedF (gi (wd2 bl n) (n+1)) 7 18 3)) (gi (wd2 bl n) n)]=wd2 bl (n+1)):=rfl
     obtain⟨R,hR⟩:∃R,wd2 bl (n+1)=R:=⟨_,rfl⟩
     rw[hR]at hst
     have HR:=Lib.hid hR
     clear hR
     generalize wd2 bl n=S at *
     obtain⟨p2,hp2⟩:∃p,n+14=p:=⟨_,rfl⟩
     obtain⟨p7,hp7⟩:∃p,n+9=p:=⟨_,rfl⟩
     obtain⟨p15,hp15⟩:∃p,n+1=p:=⟨_,rfl⟩
     rw[hp2,hp7,hp15]at hst
     have e2:IntKind.i64.wrap ((n:Int)+16-2)=(p2:Int):=by rw[IntWalk.i64_in _ (by omega)];omega
     have e7:IntKind.i64.wrap ((n:Int)+16-7)=(p7:Int):=by rw[IntWalk.i64_in _ (by omega)];omega
     have e15:IntKind.i64.wrap ((n:Int)+16-15)=(p15:Int):=by rw[IntWalk.i64_in _ (by omega)];omega
     have e16:IntKind.i64.wrap (n:Int)=(n:Int):=IntWalk.i64_in _ (by omega)
     have q2:(p2:Int)<64:=by omega
     have q7:(p7:Int)<64:=by omega
     have q15:(p15:Int)<64:=by omega
     have q16:(n:Int)<64:=by omega
     have t2:p2<64:=by omega
     have t7:p7<64:=by omega
     have t15:p15<64:=by omega
     have t16:n<64:=by omega
     have i0:0≤(n:Int)+16:=by omega
     have i1:(n:Int)+16<64:=by omega
     have i2:((n:Int)+16).toNat=n+16:=by omega
     have i3:n+16<64:=by omega
     clear hp2 hp7 hp15 hn hlt2
     go_wp2
     refine wp_region_more 23 (by kernel_rfl) (by kernel_rfl) ?_
     simp only[List.take_succ_cons,List.take_zero,List.drop_succ_cons,List.drop_zero]
     repeat (first | (refine more_step (fun K hK=>?_);go_simp;refine hK _ ?_;clear hK K) | (refine more_step (fun K hK=>?_);go_simp;(with_reducible refine⟨_,fun g e=>more_call (g:=g) (e:=e) (fun g m=>by simp) (shifted_int (gi S p2) 17 19 10 (by decide) (by decide) (by decide) (by decide) (by decide) (by decide) _),hK _ ?_⟩);clear hK K) | (refine more_step (fun K hK=>?_);go_simp;(with_reducible refine⟨_,fun g e=>more_call (g:=g) (e:=e) (fun g m=>by simp) (shifted_int (gi S p15) 7 18 3 (by decide) (by decide) (by decide) (by decide) (by decide) (by decide) _),hK _ ?_⟩);clear hK K))
     refine wpQuiet_nil ?_
     intro g2 e2
     go_wp2
     go_roundw
     case rel=>exact⟨n+1,_,_,by omega,by go_num,by rw[hst.out,←HR.out]⟩
     case measure=>simp[intOf];omega
    ·obtain rfl:n=48:=by omega
     go_wp2
     exact ret_cell (i:=1) rfl rfl ag245 rfl hl2 rfl ⟨rfl,Grows.of _ _ _⟩
def rdF(W v:List Nat)(K:List Nat)(k:Nat):List Nat :=
 [add32 (add32 (add32 (add32 (add32 (gi v 7) (turnedF (gi v 4) 6 11 25)) (pickF (gi v 4) (gi v 5) (gi v 6))) (gi K k)) (gi W k)) (add32 (turnedF (gi v 0) 2 13 22) (mostF (gi v 0) (gi v 1) (gi v 2))),gi v 0,gi v 1,gi v 2,add32 (gi v 3) (add32 (add32 (add32 (add32 (gi v 7) (turnedF (gi v 4) 6 11 25)) (pickF (gi v 4) (gi v 5) (gi v 6))) (gi K k)) (gi W k)),gi v 4,gi v 5,gi v 6]
theorem gi8_0(a b c d e f g h:Nat):gi [a,b,c,d,e,f,g,h] 0=a:=rfl
theorem gi8_1(a b c d e f g h:Nat):gi [a,b,c,d,e,f,g,h] 1=b:=rfl
theorem gi8_2(a b c d e f g h:Nat):gi [a,b,c,d,e,f,g,h] 2=c:=rfl
theorem gi8_3(a b c d e f g h:Nat):gi [a,b,c,d,e,f,g,h] 3=d:=rfl
theorem gi8_4(a b c d e f g h:Nat):gi [a,b,c,d,e,f,g,h] 4=e:=rfl
theorem gi8_5(a b c d e f g h:Nat):gi [a,b,c,d,e,f,g,h] 5=f:=rfl
theorem gi8_6(a b c d e f g h:Nat):gi [a,b,c,d,e,f,g,h] 6=g:=rfl
theorem gi8_7(a b c d e f g h:Nat):gi [a,b,c,d,e,f,g,h] 7=h:=rfl
def rootsL:List Nat:=[1116352408,1899447441,3049323471,3921009573,961987163,1508970993,2453635748,2870763221,3624381080,310598401,607225278,1426881987,1925078388,2162078206,2614888103,3248222580,3835390401,4022224774,264347078,604807628,770255983,1249150122,1555081692,1996064986,2554220882,2821834349,2952996808,3210313671,3336571891,3584528711,113926993,338241895,666307205,773529912,1294757372,1396182291,1695183700,1986661051,2177026350,2456956037,2730485921,2820302411,3259730800,3345764771,3516065817,3600352804,4094571909,275423344,430227734,506948616,659060556,883997877,958139571,1322822218,1537002063,1747873779,1955562222,2024104815,2227730452,2361852424,2428436474,2756734187,3204031479,3329325298]
def rd(W v:List Nat):Nat→List Nat
 |0=>v
 |k+1=>rdF W (rd W v k) rootsL k
def pressF(st bl:List Nat):List Nat:=plusL st (rd (widenL bl) st 64)
theorem pressF_length(st bl:List Nat):(pressF st bl).length=8:=plusL_length _ _
def Roots(w:World):Prop:=∃t f,blk w 0=some (.cells (cv .u32 rootsL) t f)
theorem Roots.grows{w w':World}(h:Roots w)(hg:Grows w w'):Roots w':=let ⟨t,f,e⟩:=h;⟨t,f,hg.blk e⟩
theorem Roots.wd{w:World}(h:Roots w)(l:List Obj)(d:Nat):Roots (Wd w l d):=h.grows (Grows.of _ _ _)
theorem bu230(a b c d e f g h:Nat)(W:World):(buN 230 #[(0,.int .u32 a),(1,.int .u32 b),(2,.int .u32 c),(3,.int .u32 d),(4,.int .u32 e),(5,.int .u32 f),(6,.int .u32 g),(7,.int .u32 h)]).run Tryz.prog W=.ok (.agg (cv .u32 [a,b,c,d,e,f,g,h])) W:=by kernel_rfl
theorem eight{v:List Nat}(h:v.length=8):[gi v 0,gi v 1,gi v 2,gi v 3,gi v 4,gi v 5,gi v 6,gi v 7]=v:=by
 match v,h with
 | [_,_,_,_,_,_,_,_],_=>rfl
theorem rd_length(W v:List Nat)(h:v.length=8):∀k,(rd W v k).length=8
 |0=>h
 |k+1=>by rw[rd,rdF];rfl
theorem turned_same(x:Nat)(a b c:Int)(ha1:1≤a)(ha:a≤31)(hb1:1≤b)(hb:b≤31)(hc1:1≤c)(hc:c≤31)(w:World) :
  Calls Tryz.prog 154 #[.int .u32 x,.int .i64 a,.int .i64 b,.int .i64 c] w fun e w'=>e=.returned (.int .u32 (turnedF x a b c))∧w'=w :=
 (turned_any x a b c ha1 ha hb1 hb hc1 hc w).mono fun _ _ h=>⟨h.1,h.2.symm⟩
theorem pick_same(a b c:Nat)(w:World):Calls Tryz.prog 155 #[.int .u32 a,.int .u32 b,.int .u32 c] w fun e w'=>e=.returned (.int .u32 (pickF a b c))∧w'=w :=
 (pick_any a b c w).mono fun _ _ h=>⟨h.1,h.2.symm⟩
attribute [local go_sem] bu230
end Go.Proofs.YtlogjpmdfimgdaaGreatDoor.Jf.Sm
namespace Go.Proofs.YtlogjpmdfimgdaaGreatDoor.Jf.Sm
open Go.RowKit Go.Own.Jf
attribute [local go_sem] ag230 ag232 ag245 ag195 ag5 ag3 cs230 cs232 cs245 cs195 cs5 cs3 sz230 sz232 sz245 sz195 sz5 sz3 isa195 isa5 isa3 z230 z245 bu230
set_option maxRecDepth 100000 in
set_option maxHeartbeats 1000000 in
theorem press_any(st bl:List Nat)(hst:st.length=8)(hbl:bl.length=64)(h8:B8 bl)(w:World)(hR:Roots w) :
  Calls Tryz.prog 145 #[.agg (cv .u32 st),.agg (cv .u8 bl)] w fun e w'=>e=.returned (.agg (cv .u32 (pressF st bl)))∧Grows w w':=by
 have HR:=Lib.hid hR;clear hR
 have H8:=Lib.hid h8;clear h8
 have hwl:=widenL_length bl
 refine calls_wd ?_
 go_enter Tryz.func145,Tryz.ntmps145
 go_wp2_with fail
 refine(widen_any bl hbl H8.out _).mono ?_
 rintro e w' ⟨rfl,g,d,rfl⟩
 rw[Wd_wd]
 obtain⟨W,hW⟩:∃W,widenL bl=W:=⟨_,rfl⟩
 rw[hW]at hwl ⊢
 have HWW:=Lib.hid (show W=widenL bl from hW.symm)
 clear hW
 clear H8
 obtain⟨tR,fR,hRt⟩:=HR.out
 have HRT:=Lib.hid hRt
 clear hRt HR
 go_wp2
 refine wp_region_read (by kernel_rfl) (by kernel_rfl) ?_
 repeat still_step
 refine wpStill_nil ?_
 go_wp2
 go_loopw [6,7,8,9,10,11,12,13,37] (fun s0 s1 s2 s3 s4 s5 s6 s7 i wr=>∃(k d:Nat) (v:List Nat),k≤64∧i=.int .i64 k∧Hid (rd W st k=v)∧s0=.int .u32 (gi v 0:Nat)∧s1=.int .u32 (gi v 1:Nat)∧s2=.int .u32 (gi v 2:Nat)∧s3=.int .u32 (gi v 3:Nat)∧s4=.int .u32 (gi v 4:Nat)∧s5=.int .u32 (gi v 5:Nat)∧s6=.int .u32 (gi v 6:Nat)∧s7=.int .u32 (gi v 7:Nat) ∧
  wr=Wd w (.cells (cv .u32 st) 230 (0,0) :: .cells (cv .u8 bl) 232 (0,0) :: .cells (cv .u32 (rep 8)) 230 (0,0) :: (g++[.cells (cv .u32 W) 245 (0,0)])) d) (fun _ _ _ _ _ _ _ _ i _=>64-(intOf i).toNat)
 case atStart=>exact⟨0,_,st,by omega,rfl,Lib.hid rfl,rfl,rfl,rfl,rfl,rfl,rfl,rfl,rfl,rfl⟩
 case round =>
  obtain⟨k,d,v,hk,rfl,hv,rfl,rfl,rfl,rfl,rfl,rfl,rfl,rfl,rfl⟩:=hrel
  by_cases hlt:k<64
  ·have hn:=Lib.hid (show rd W st (k+1)=[add32 (add32 (add32 (add32 (add32 (gi v 7) (turnedF (gi v 4) 6 11 25)) (pickF (gi v 4) (gi v 5) (gi v 6))) (gi rootsL k)) (gi W k)) (add32 (turnedF (gi v 0) 2 13 22) (mostF (gi v 0) (gi v 1) (gi v 2))),gi v 0,gi v 1,gi v 2,add32 (gi v 3) (add32 (add32 (add32 (add32 (gi v 7) (turnedF (gi v 4) 6 11 25)) (pickF (gi v 4) (gi v 5) (gi v 6))) (gi rootsL k)) (gi W k)),gi v 4,gi v 5,gi v 6] by rw[rd,hv.out,rdF])
   have hRW:∀(l:List Obj) (d:Nat),blk (Wd w l d) 0=some (.cells (cv .u32 rootsL) tR fR):=fun l d=>blk_old _ _ _ _ HRT.out
   have hrl:k<rootsL.length:=hlt
   have hk64:(k:Int)<64:=by omega
   go_wp2
   refine wp_region_tail 15 (by kernel_rfl) (by kernel_rfl) ?_
   simp only[List.take_succ_cons,List.take_zero,List.drop_succ_cons,List.drop_zero]
   repeat (first | still_step | (refine wpStill_step (fun K hK=>?_);go_simp;(with_reducible refine⟨_,turned_same _ 6 11 25 (by decide) (by decide) (by decide) (by decide) (by decide) (by decide) _,hK _ ?_⟩);clear hK K) | (refine wpStill_step (fun K hK=>?_);go_simp;(with_reducible refine⟨_,pick_same _ _ _ _,hK _ ?_⟩);clear hK K))
   refine wpStill_nil ?_
   go_wp2_with fail
   refine(turned_any _ 2 13 22 (by decide) (by decide) (by decide) (by decide) (by decide) (by decide) _).mono ?_
   rintro e w' ⟨rfl,rfl⟩
   go_wp2_with fail
   refine(most_any _ _ _ _).mono ?_
   rintro e w' ⟨rfl,rfl⟩
   go_wp2
   go_roundw
   case rel=>exact⟨k+1,_,_,by omega,by go_num,hn,by rw[gi8_0],by rw[gi8_1],by rw[gi8_2],by rw[gi8_3],by rw[gi8_4],by rw[gi8_5],by rw[gi8_6],by rw[gi8_7],rfl⟩
   case measure=>simp[intOf];omega
  ·obtain rfl:k=64:=by omega
   have h8v:v.length=8:=by rw[←hv.out];exact rd_length W st hst 64
   have HE:=Lib.hid (eight h8v)
   have HV:=Lib.hid h8v
   clear h8v
   go_wp2_with fail
   refine(plus_any st [gi v 0,gi v 1,gi v 2,gi v 3,gi v 4,gi v 5,gi v 6,gi v 7] hst rfl _).mono ?_
   rintro e w' ⟨rfl,g2,d2,rfl⟩
   rw[Wd_wd,HE.out]
   have hpl:=plusL_length st v
   go_wp2
   exact ret_cell (i:=2) rfl rfl ag230 rfl hpl rfl ⟨by rw[←hv.out,HWW.out];rfl,Grows.of _ _ _⟩
end Go.Proofs.YtlogjpmdfimgdaaGreatDoor.Jf.Sm

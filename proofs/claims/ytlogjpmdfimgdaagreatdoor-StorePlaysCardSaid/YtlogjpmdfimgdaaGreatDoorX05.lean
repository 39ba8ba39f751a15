/- Changes as a value, and printed (store's list and printed): by contract. No condition but the sizes. | A map is copied; a store knows nothing any more: by contract. No condition. | The text that puts the values of some keys (store's putting): by contract. No condition but the sizes. | What a range over a function wants; the chunks of a row of strings, as the iterator hands them out: its contract. No condition but the sizes. -/
import Derived.Test.YtlogjpmdfimgdaaGreatDoorX04
import Derived.Shelf.SlMaps.Clone
import Derived.RangeFuncNested
import Derived.RangeFuncBound
import Derived.RangeFuncCalls
import Derived.RangeFuncLeaves
import Derived.RangeFuncFrom
import Derived.Shelf.Abstract
import Derived.Shelf.RegionOpen
import Derived.OrdersIn
import Derived.TacticsIn
import Derived.OwnWalkIn
import Derived.TacticsInMore
import Derived.LoopNIn
import Derived.LoopIn
namespace Go.Own
def chA(c:Ch):A:=match c.2 with
 |none=>.list [.str c.1]
 |some a=>.list [.str c.1,a]
def trA(l:List Ch):A:=.list (l.map chA)
end Go.Own
namespace Go.Proofs.YtlogjpmdfimgdaaGreatDoor
open Go.RowKit Go.Own Go.Maps Go.WideMaps
def ListChQ(c:Ch)(S:Nat→Prop)(w:World)(e:Ending)(w':World):Prop :=
 ∃p m,e=.returned (.slice p m m)∧Below w.heap.size w w'∧AAt w' (fun b=>S b∨w.heap.size≤b) (.iface 67 (.slice p m m)) (chA c)
set_option maxRecDepth 100000 in
theorem listGone_any(k:ByteArray)(hk:k.size≤9223372036854775807)(v:Value)(S:Nat→Prop)(w:World) :
  Calls Tryz.prog 52 #[.agg #[.string k,v,.bool true]] w (ListChQ (k,none) S w):=by
 obtain⟨W,hW⟩:∃W,w.alloc (.cells #[.string k,v,.bool true] 66)=W:=⟨_,rfl⟩
 have hB:Below w.heap.size w W:=hW▸(Below.refl _ w).alloc (Nat.le_refl _) _
 have hh:W.heap[w.heap.size]?=some (.cells #[.string k,v,.bool true] 66 (0,0)):=hW▸heap_alloc_new w _
 have c0:W.cell? ⟨w.heap.size,0,none⟩=some (.string k):=by unfold World.cell?;simp[hh]
 have c2:W.cell? ⟨w.heap.size,2,none⟩=some (.bool true):=by unfold World.cell?;simp[hh]
 obtain⟨W2,hW2⟩:∃W2,W.alloc (.cells #[.iface 9 (.string k)] 20)=W2:=⟨_,rfl⟩
 have hn:W2.heap[W.heap.size]?=some (.cells #[.iface 9 (.string k)] 20 (0,0)):=hW2▸heap_alloc_new W _
 have hB2:Below W.heap.size W W2:=hW2▸(Below.refl _ W).alloc (Nat.le_refl _) _
 have hQ:Hid (ListChQ (k,none) S w (.returned (.slice (some ⟨W.heap.size,0,none⟩) 1 1)) W2):=Lib.hid ⟨_,_,rfl,hB.trans (hB2.mono hB.size),by
  refine .list W.heap.size 0 1 1 [.str k] (fun _=>.iface 9 (.string k)) rfl (Or.inr hB.size) (Array.getElem?_eq_some_iff.1 hn).1 (Nat.le_refl _) (by omega) (fun j x hx=>?_) (fun j x hx=>?_)
  ·match j,hx with
   |0,_=>unfold World.cell?;simp[hn]
   |j+1,hx=>simp at hx
  ·match j,hx with
   |0,hx=>simp at hx;subst hx;exact .str k hk
   |j+1,hx=>simp at hx⟩
 have hbs:(Instr.buildSlice 67 1 #[(0,.iface 9 (.string k))]).run Tryz.prog W=.ok (.slice (some ⟨W.heap.size,0,none⟩) 1 1) W2:=by rw[←hW2];kernel_rfl
 clear hn hB2 hh hB
 go_enter Tryz.func52,Tryz.ntmps52
 go_wp2
 go_ret
 exact hQ.out
theorem aat_shape{w:World}{S:Nat→Prop}{v:Value}{a:A}(h:AAt w S v a):(∃t u,v=.iface t u)∨v=.nilIface:=by
 cases h <;> first | exact Or.inr rfl | exact Or.inl ⟨_,_,rfl⟩
set_option maxRecDepth 100000 in
theorem listPut_any(k:ByteArray)(hk:k.size≤9223372036854775807)(v:Value)(a:A)(S:Nat→Prop)(w:World)(hv:AAt w S v a) :
  Calls Tryz.prog 52 #[.agg #[.string k,v,.bool false]] w (ListChQ (k,some a) S w):=by
 obtain⟨W,hW⟩:∃W,w.alloc (.cells #[.string k,v,.bool false] 66)=W:=⟨_,rfl⟩
 have hB:Below w.heap.size w W:=hW▸(Below.refl _ w).alloc (Nat.le_refl _) _
 have hh:W.heap[w.heap.size]?=some (.cells #[.string k,v,.bool false] 66 (0,0)):=hW▸heap_alloc_new w _
 have c0:W.cell? ⟨w.heap.size,0,none⟩=some (.string k):=by unfold World.cell?;simp[hh]
 have c1:W.cell? ⟨w.heap.size,1,none⟩=some v:=by unfold World.cell?;simp[hh]
 have c2:W.cell? ⟨w.heap.size,2,none⟩=some (.bool false):=by unfold World.cell?;simp[hh]
 obtain⟨W2,hW2⟩:∃W2,W.alloc (.cells #[.iface 9 (.string k),v] 20)=W2:=⟨_,rfl⟩
 have hn:W2.heap[W.heap.size]?=some (.cells #[.iface 9 (.string k),v] 20 (0,0)):=hW2▸heap_alloc_new W _
 have hB2:Below W.heap.size W W2:=hW2▸(Below.refl _ W).alloc (Nat.le_refl _) _
 have hBB:Below w.heap.size w W2:=hB.trans (hB2.mono hB.size)
 have hv2:AAt W2 (fun b=>S b∨w.heap.size≤b) v a:=hv.keep (fun _ h _=>Or.inl h) hBB.size (fun b _ h=>hBB.block b h)
 have hQ:Hid (ListChQ (k,some a) S w (.returned (.slice (some ⟨W.heap.size,0,none⟩) 2 2)) W2):=Lib.hid ⟨_,_,rfl,hBB,by
  refine .list W.heap.size 0 2 2 [.str k,a] (fun j=>if j=0 then .iface 9 (.string k)else v) rfl (Or.inr hB.size) (Array.getElem?_eq_some_iff.1 hn).1 (Nat.le_refl _) (by omega) (fun j x hx=>?_) (fun j x hx=>?_)
  ·match j,hx with
   |0,_=>unfold World.cell?;simp[hn]
   |1,_=>unfold World.cell?;simp[hn]
   |j+2,hx=>simp at hx
  ·match j,hx with
   |0,hx=>simp at hx;subst hx;exact .str k hk
   |1,hx=>simp at hx;subst hx;exact hv2
   |j+2,hx=>simp at hx⟩
 have hbs:(Instr.buildSlice 67 2 #[(0,.iface 9 (.string k)),(1,v)]).run Tryz.prog W=.ok (.slice (some ⟨W.heap.size,0,none⟩) 2 2) W2:=by
  rw[←hW2]
  rcases aat_shape hv with⟨t,u,rfl⟩ | rfl <;> kernel_rfl
 have hsh:=aat_shape hv
 clear hn hB2 hh hB hv hv2 hBB
 rcases hsh with⟨t,u,rfl⟩ | rfl
 all_goals
  go_enter Tryz.func52,Tryz.ntmps52
  go_wp2
  go_ret
  exact hQ.out
def ChRow(w:World)(v:Value)(cs:List Ch):Prop :=
 ∃p cap,v=.slice p cs.length cap∧cs.length≤cap∧∀(j:Nat) (c:Ch),cs[j]?=some c→c.1.size≤9223372036854775807∧∃b o u gone,p=some ⟨b,o,none⟩∧b<w.heap.size∧((∃t x,u=.iface t x)∨u=.nilIface) ∧
  w.cell? ⟨b,o+j*3,none⟩=some (.string c.1)∧w.cell? ⟨b,o+j*3+1,none⟩=some u∧w.cell? ⟨b,o+j*3+2,none⟩=some (.bool gone)∧((gone=true∧c.2=none)∨∃a,gone=false∧c.2=some a∧Has w u a)
def RowP(w wr:World)(g n:Nat)(cs:List Ch)(j:Nat):Prop :=
 ∃us:List Value,us.length=j∧wr.ownsRow w.heap.size 20 1 (.slice (some ⟨g,0,none⟩) j n) j us∧∀(i:Nat) (u:Value) (c:Ch),us[i]?=some u→cs[i]?=some c→AAt wr (fun b=>b≠g) u (chA c)
theorem rowP_step{w wr w3 w4:World}{g n:Nat}{cs:List Ch}{j:Nat}{us:List Value}{u:Value}{c:Ch}{o:Obj}(r1:us.length=j)
  (r6:∀(i:Nat) (u:Value) (c:Ch),us[i]?=some u→cs[i]?=some c→AAt wr (fun b=>b≠g) u (chA c)) (hgl:g<wr.heap.size) (hB3:Below wr.heap.size wr w3) (hO:AAt w3 (fun b=>b≠g) u (chA c)) (hc:cs[j]?=some c)
  (hO4:w4.ownsRow w.heap.size 20 1 (.slice (some ⟨g,0,none⟩) (j+1) n) (j+1) (us++[u])) (hG4:(w3.alloc o).grownBy w4 (some g)) :
  RowP w w4 g n cs (j+1)∧Below g wr w4:=by
 have hz3:=hB3.size
 have hz4:=hG4.size
 rw[show (w3.alloc o).heap.size=w3.heap.size+1 by simp]at hz4
 have hk4:∀k,k<w3.heap.size→k≠g→w4.heap[k]?=w3.heap[k]?:=fun k hk hne=>(hG4.block k (by simp;omega) (fun e=>hne (by cases e;rfl))).trans (heap_alloc_old _ _ hk)
 have hkO:∀ {u a},AAt w3 (fun b=>b≠g) u a→AAt w4 (fun b=>b≠g) u a:=fun {u a} h=>h.keep (fun _ h _=>h) (by omega) (fun b hb hlt=>hk4 b hlt hb)
 refine⟨⟨us++[u],by simp[r1],hO4,fun i u' c' hu hcs=>?_⟩,?_⟩
 ·by_cases e:i<j
  ·rw[List.getElem?_append_left (by omega)]at hu
   exact hkO ((r6 i u' c' hu hcs).keep (fun _ h _=>h) hz3 (fun b _ hlt=>hB3.block b hlt))
  ·have hi:i=j:=by
    have:=(List.getElem?_eq_some_iff.1 hu).1
    simp[r1]at this
    omega
   subst hi
   rw[List.getElem?_append_right (by omega),r1,Nat.sub_self]at hu
   rw[hc]at hcs
   simp at hu
   cases hcs
   subst hu
   exact hkO hO
 ·refine⟨hG4.os.trans hB3.os,hG4.tape.trans hB3.tape,hG4.output.trans hB3.output,by omega,fun k hk=>?_⟩
  rw[hk4 k (by omega) (by omega)]
  exact hB3.block k (by omega)
set_option maxRecDepth 100000 in
set_option maxHeartbeats 4000000 in
theorem printed_tr(cs:List Ch)(v:Value)(w:World)(h:ChRow w v cs)(hl:cs.length≤100000)(hs:sz (trA cs) 0≤140737488355328) :
  Calls Tryz.prog 32 #[v] w (PrintQ (trA cs) w):=by
 obtain⟨p,cap,rfl,hcap,hrow⟩:=h
 obtain⟨i20,hi20,hz20,hs20,hy20⟩:=info_parts info20
 obtain⟨n,hn⟩:=(⟨_,rfl⟩:∃n,cs.length=n)
 have HN:=Lib.hid hn
 have HRW:=Lib.hid hrow
 have HS:=Lib.hid hs
 rw[hn]at hcap hl ⊢
 clear hrow hn hs
 obtain⟨g,hg⟩:=(⟨_,rfl⟩:∃g,w.heap.size=g)
 unfold PrintQ
 obtain⟨s9,hs9⟩:=(⟨_,rfl⟩:∃s,prt (trA cs)=s)
 obtain⟨e9,he9⟩:=(⟨_,rfl⟩:∃s,er (trA cs) 0=s)
 rw[hs9,he9]
 have HE9:=Lib.hid (show prt (trA cs)=s9∧er (trA cs) 0=e9 from⟨hs9,he9⟩)
 clear hs9 he9
 go_enter Tryz.func32,Tryz.ntmps32
 go_wp2_with (first | (at_make;refine wpList_make_own w rfl _ _ 67 rfl w.heap.size 20 i20 .nilIface 1 Tryz.underlying67 hi20 hz20 hs20 _ _ (n:Int) n rfl rfl rfl (by rw[hy20];omega) (by unfold maxLen;omega) (Nat.le_refl _) ?_;intro w2 hO2 hB2) | go_in)
 try rw[hg]
 rw[hg]at hO2
 have hB2':Hid (Below w.heap.size w w2):=Lib.hid ⟨hB2.os,hB2.tape,hB2.output,hB2.size,fun k hk=>hB2.block k hk (by simp)⟩
 have hR0:Hid (RowP w w2 g n cs 0):=Lib.hid ⟨[],rfl,by rw[hg];exact hO2,fun i u c hu=>by simp at hu⟩
 clear hO2 hB2
 try go_frame
 go_loopw [4,12] (fun v i wr=>∃j:Nat,j≤n∧v=.slice (some ⟨g,0,none⟩) j n∧i=.int .i64 (j:Int)∧Hid (RowP w wr g n cs j)∧Hid (Below w.heap.size w wr)) (fun _ i _=>n-(intOf i).toNat)
 case atStart=>exact⟨0,Nat.zero_le _,rfl,rfl,hR0,hB2'⟩
 case round =>
  obtain⟨j,hj,rfl,rfl,hR,hBr⟩:=hrel
  by_cases hlt:j<n
  ·have hlti:(j:Int)<(n:Int):=by omega
   obtain⟨c,hc⟩:∃c,cs[j]?=some c:=⟨cs[j]'(by have:=HN.out;omega),List.getElem?_eq_getElem _⟩
   obtain⟨hk,b,o,u,gone,rfl,e1,e0,e2,e3,e4,e5⟩:=HRW.out j c hc
   have c0:wr.cell? ⟨b,o+j*3,none⟩=some (.string c.1):=(hBr.out.cell (p:=⟨b,o+j*3,none⟩) e1).trans e2
   have c1:wr.cell? ⟨b,o+j*3+1,none⟩=some u:=(hBr.out.cell (p:=⟨b,o+j*3+1,none⟩) e1).trans e3
   have c2:wr.cell? ⟨b,o+j*3+2,none⟩=some (.bool gone):=(hBr.out.cell (p:=⟨b,o+j*3+2,none⟩) e1).trans e4
   have hjc:j<cap:=by omega
   have hmul:(j:Int)*3=((j*3:Nat):Int):=by omega
   obtain⟨us,r1,r3,r6⟩:=hR.out
   have hgl:g<wr.heap.size:=(r3.lt g rfl).2
   obtain⟨W,hW⟩:∃W,wr.alloc (.cells #[.string c.1,u,.bool gone] 66)=W:=⟨_,rfl⟩
   have hBW:Below wr.heap.size wr W:=hW▸(Below.refl _ wr).alloc (Nat.le_refl _) _
   have hcall:Hid (Calls Tryz.prog 52 #[.agg #[.string c.1,u,.bool gone]] W (ListChQ c (fun b=>b≠g∧b<wr.heap.size) W)):=Lib.hid (by
    rcases e5 with⟨rfl,h0⟩ | ⟨a,rfl,h0,hu⟩
    ·have:=listGone_any c.1 hk u (fun b=>b≠g∧b<wr.heap.size) W
     rwa [show (c.1,none)=c by rw[←h0]]at this
    ·have hu2:AAt W (fun b=>b≠g∧b<wr.heap.size) u a:=(hu.low).keep (fun b hb _=>⟨by omega,by have:=hBr.out.size;omega⟩) (Nat.le_trans hBr.out.size hBW.size) (fun b _ hlt=>(hBW.block b (by have:=hBr.out.size;omega)).trans (hBr.out.block b hlt))
     have:=listPut_any c.1 hk u a _ W hu2
     rwa [show (c.1,some a)=c by rw[←h0]]at this)
   have hhW:W.heap[wr.heap.size]?=some (.cells #[.string c.1,u,.bool gone] 66 (0,0)):=hW▸heap_alloc_new wr _
   have d0:W.cell? ⟨wr.heap.size,0,none⟩=some (.string c.1):=by unfold World.cell?;simp[hhW]
   have d1:W.cell? ⟨wr.heap.size,1,none⟩=some u:=by unfold World.cell?;simp[hhW]
   have d2:W.cell? ⟨wr.heap.size,2,none⟩=some (.bool gone):=by unfold World.cell?;simp[hhW]
   clear hhW
   have hB0:=Lib.hid hBW
   have hHC:=Lib.hid hc
   have hR6:=Lib.hid r6
   have hR3:=Lib.hid r3
   clear hR e1 e2 e3 e4 e5 hBW r6 r3 hc
   rcases e0 with⟨t0,x0,rfl⟩ | rfl
   all_goals
    go_wp2_with fail
    refine hcall.out.mono ?_
    rintro e w3 ⟨p2,m2,rfl,hB3,hA⟩
    have hB33:=hB0.out.trans (hB3.mono hB0.out.size)
    have hA3:Hid (AAt w3 (fun b=>b≠g) (.iface 67 (.slice p2 m2 m2)) (chA c)):=Lib.hid (hA.keep (fun b hb _=>by rcases hb with h | h;exact h.1;have:=hB0.out.size;omega) (Nat.le_refl _) (fun _ _ _=>rfl))
    have r3':=own_kept hR3.out hB33
    have hw3:w.heap.size≤w3.heap.size:=Nat.le_trans hBr.out.size hB33.size
    have HST:Hid (∀(o:Obj) (w4:World),w4.ownsRow w.heap.size 20 1 (.slice (some ⟨g,0,none⟩) (j+1) n) (j+1) (us++[.iface 67 (.slice p2 m2 m2)])→(w3.alloc o).grownBy w4 (some g)→RowP w w4 g n cs (j+1)∧Below g wr w4) :=
     Lib.hid fun o w4 h1 h2=>rowP_step r1 hR6.out hgl hB33 hA3.out hHC.out h1 h2
    clear hcall hB3 hA hB33 hR6 hR3 hA3 hHC hB0 c0 c1 c2 hW d0 d1 d2
    go_wp2_with (first | (at_builtin;refine wpList_append_fits (w3.alloc (.cells #[_] 20)) rfl (.tmp 16) (.tmp 20) 67 rfl w.heap.size 20 i20 1 Tryz.underlying67 hi20 hs20 g j n us rfl (r3'.alloc _) ⟨w3.heap.size,0,none⟩ 1 1 [_] rfl rfl (one_new _ _ _) (fn_one _ rfl) (by omega) ?_;intro w4 hO4 hG4;have hST:=Lib.hid (HST.out _ w4 hO4 hG4);clear hO4 hG4) | go_in)
    go_roundw
    case rel=>exact⟨j+1,by omega,rfl,by go_num,Lib.hid hST.out.1,Lib.hid (hBr.out.trans (hST.out.2.mono (by omega)))⟩
    case measure=>simp[intOf];omega
  ·obtain rfl:j=n:=by omega
   have hlti:¬(j:Int)<(j:Int):=by omega
   obtain⟨us,r1,r3,r6⟩:=hR.out
   have hHas:Has wr (.iface 67 (.slice (some ⟨g,0,none⟩) j j)) (trA cs):=by
    refine .list g 0 j j _ (fun i=>us.getD i .nilIface) (by rw[List.length_map];exact HN.out) trivial (r3.lt g rfl).2 (Nat.le_refl _) (by omega) (fun i x hx=>?_) (fun i x hx=>?_)
    ·have hi:i<us.length:=by have:=(List.getElem?_eq_some_iff.1 hx).1;rw[List.length_map]at this;have:=HN.out;omega
     have:=r3.cells (g:=g) rfl i _ (List.getElem?_eq_getElem hi)
     rw[hadd]at this
     rw[this]
     simp[List.getD,hi]
    ·have hi:i<us.length:=by have:=(List.getElem?_eq_some_iff.1 hx).1;rw[List.length_map]at this;have:=HN.out;omega
     obtain⟨c,hc,rfl⟩:∃c,cs[i]?=some c∧chA c=x:=by
      rw[List.getElem?_map]at hx
      cases h:cs[i]? with
      |none=>rw[h]at hx;cases hx
      |some c=>rw[h]at hx;cases hx;exact⟨c,rfl,rfl⟩
     have e:us.getD i .nilIface=us[i]:=by simp[List.getD,hi]
     rw[e]
     exact(r6 i _ c (List.getElem?_eq_getElem hi) hc).has
   have hP:=Lib.hid (print_any (trA cs) _ wr hHas HS.out)
   unfold PrintQ at hP
   rw[HE9.out.1,HE9.out.2]at hP
   clear hR r1 r3 r6 hHas
   go_wp2_with fail
   refine hP.out.mono ?_
   rintro e w3 ⟨rfl,hB3⟩
   have hB4:=Lib.hid (hBr.out.trans (hB3.mono hBr.out.size))
   clear hP hB3
   go_wp2
   go_ret2
   exact⟨rfl,hB4.out⟩
end Go.Proofs.YtlogjpmdfimgdaaGreatDoor
namespace Go.Proofs.YtlogjpmdfimgdaaGreatDoor
open Go.RowKit Go.Own Go.Maps Go.WideMaps
def mClone_ren:Go.Shelf.Ren:=⟨fun | 5=>35 | 7=>62 | n=>n,fun | 4=>4 | 20=>20 | 23=>84 | 25=>9 | 3=>20 | n=>n,fun | n=>n⟩
theorem mClone:Go.Proofs.SlLaysW.n5 Tryz.prog mClone_ren:={
 mixed:=by kernel_rfl
 f5:=⟨Tryz.f35.name,by decide,Tryz.func35.trans (congrArg some (by kernel_rfl))⟩
 f7:=Tryz.func62.trans (congrArg some (by kernel_rfl))
 t4:=Tryz.underlying4
 a4:=Tryz.isAgg4
 z4:=Tryz.sizeOf4
 v4:=Tryz.zeroValue4
 t20:=Tryz.underlying20
 a20:=Tryz.isAgg20
 z20:=Tryz.sizeOf20
 v20:=Tryz.zeroValue20
 t23:=Tryz.underlying84
 a23:=Tryz.isAgg84
 z23:=Tryz.sizeOf84
 v23:=Tryz.zeroValue84 }
theorem mapClone_any(S:Nat→Prop)(b n:Nat)(g:ByteArray→Option A)(w:World)(h:MapA w S b n g)(hS:¬S w.heap.size) :
  Calls Tryz.prog 35 #[.map (some b)] w fun e w'=>e=.returned (.map (some w.heap.size))∧MapA w' S w.heap.size n g∧MapA w' S b n g∧Below w.heap.size w w':=by
 obtain⟨h0,f,⟨D,h1,h2⟩,h3⟩:=h
 refine(AnyW.maps_Clone_owns mClone 9 RV b n D w h1).mono fun e w' ⟨he,k1,k2,hB⟩=>⟨he,⟨hS,f,⟨D,k1,h2⟩,fun s=>?_⟩,⟨h0,f,⟨D,k2,h2⟩,fun s=>?_⟩,hB⟩
 all_goals
  rcases h3 s with h | ⟨v,a,e1,e2,hv⟩
  ·exact Or.inl h
  ·exact Or.inr ⟨v,a,e1,e2,hv.keep (fun _ h _=>h) hB.size (fun b _ hlt=>hB.block b hlt)⟩
set_option maxRecDepth 100000 in
theorem down_any(sb b:Nat)(jp:Option Addr)(w:World)(hs:SAt w sb jp b) :
  Calls Tryz.prog 37 #[.pointer (some ⟨sb,0,none⟩)] w fun e w'=>e=.returned (.int .i64 7)∧SAt w' sb jp w.heap.size∧MapA w' (fun _=>False) w.heap.size 0 (fun _=>none)∧w.grownBy w' (some sb):=by
 obtain⟨W,hW⟩:∃W,w.alloc (.map #[] 0)=W:=⟨_,rfl⟩
 have hmk:(Instr.makeMap 84 none).run Tryz.prog w=.ok (.map (some w.heap.size)) W:=by rw[←hW];exact run_makeMap 84 w
 have hB:Below w.heap.size w W:=hW▸(Below.refl _ w).alloc (Nat.le_refl _) _
 have hz:W.heap.size=w.heap.size+1:=by rw[←hW];simp
 have hh:=(hB.block sb hs.1).trans hs.2
 obtain⟨c0,c1⟩:=cells2 hh
 have f1:W.frozen? ⟨sb,1,none⟩=false:=by simp[World.frozen?,hh]
 have hm:MapA W (fun _=>False) w.heap.size 0 (fun _=>none):=hW▸MapA.made w _ (fun h=>h)
 have hs2:SAt (W.setCell ⟨sb,1,none⟩ (.map (some w.heap.size))) sb jp w.heap.size:=⟨by simp;have:=hs.1;omega,heap_setCell_same W sb 1 _ 86 _ hh⟩
 have hg:W.grownBy (W.setCell ⟨sb,1,none⟩ (.map (some w.heap.size))) (some sb):=⟨rfl,rfl,rfl,by simp,fun i _ hi=>heap_setCell_other W ⟨sb,1,none⟩ i _ (fun e=>hi (by rw[e]))⟩
 have hne:w.heap.size≠sb:=by have:=hs.1;omega
 have hm2:MapA (W.setCell ⟨sb,1,none⟩ (.map (some w.heap.size))) (fun _=>False) w.heap.size 0 (fun _=>none) :=
  hm.keep (fun h=>h) (fun _ h _=>h) hg.size (fun _ h _=>h.elim) (fun f hf=>hf.kept hg (fun e=>hne (by cases e;rfl)))
 have hQ:Hid (SAt (W.setCell ⟨sb,1,none⟩ (.map (some w.heap.size))) sb jp w.heap.size∧MapA (W.setCell ⟨sb,1,none⟩ (.map (some w.heap.size))) (fun _=>False) w.heap.size 0 (fun _=>none)∧w.grownBy (W.setCell ⟨sb,1,none⟩ (.map (some w.heap.size))) (some sb)) :=
  Lib.hid ⟨hs2,hm2,((grown_of_below hB (some sb)).andThen hg (fun j hj=>Or.inr hj))⟩
 clear hW hB hz hh hm hs2 hg hne hm2 hs
 go_enter Tryz.func37,Tryz.ntmps37
 go_wp2
 go_ret
 exact⟨rfl,hQ.out⟩
end Go.Proofs.YtlogjpmdfimgdaaGreatDoor
namespace Go.Proofs.YtlogjpmdfimgdaaGreatDoor
open Go.RowKit Go.Own Go.Maps Go.WideMaps
def chC(l:List (ByteArray×Value)):List Value:=l.flatMap fun x=>[.string x.1,x.2,.bool false]
def OwnC(w:World)(B:Nat)(v:Value)(l:List (ByteArray×Value)):Prop:=w.ownsRow B 66 3 v l.length (chC l)
theorem info66:(Tryz.prog.info? 66).map (fun i=>(i.zero,i.size,i.bytes))=some (some (.agg #[.string { data:=#[] },.nilIface,.bool false]),3,40):=by kernel_rfl
theorem chC_get:∀(l:List (ByteArray×Value)) (j:Nat) (x:ByteArray×Value),l[j]?=some x→(chC l)[j*3]?=some (.string x.1)∧(chC l)[j*3+1]?=some x.2∧(chC l)[j*3+2]?=some (.bool false)
 | [],j,x,h=>by simp at h
 |y :: r,0,x,h=>by
  simp at h
  subst h
  exact⟨rfl,rfl,rfl⟩
 |y :: r,j+1,x,h=>by
  have h1:=chC_get r j x (by simpa using h)
  have e:chC (y :: r)=.string y.1 :: y.2 :: .bool false :: chC r:=rfl
  rw[e,show (j+1)*3=j*3+1+1+1 by omega,show j*3+1+1+1+1=(j*3+1)+1+1+1 by omega,show j*3+1+1+1+2=(j*3+2)+1+1+1 by omega]
  simp only[List.getElem?_cons_succ]
  exact h1
theorem wpList_chg{ops:Array Oper}{rest:List Oper}{o:Oper}{a:Act}{Q:Exit→Act→World→Prop}{W:World}(hgd:o.guard=none)(s x:Operand)
  (ho:o.op=.call { callee:=.builtin .append,args:=#[s,x],argTypes:=#[53,53] }) (w:World) (B:Nat) (v:Value) (l:List (ByteArray×Value)) (c:ByteArray×Value) (hu:c.2.oneCell'=true) (hW:W=w.alloc (.cells #[.string c.1,c.2,.bool false] 66)) (hs:a.eval s=v) (hrow:OwnC w B v l)
  (hx:a.eval x=.slice (some ⟨w.heap.size,0,none⟩) 1 1) (hlen:l.length+1≤1000000) (hB:B≤w.heap.size)
  (h:∀v' w',OwnC w' B v' (l++[c])→Below B w w'→wpList Tryz.prog ops Q rest (a.put o.dst v') w'):wpList Tryz.prog ops Q (o :: rest) a W:=by
 subst hW
 obtain⟨i0,hi,hz0,hz1,hz2⟩:=info_parts info66
 refine wpList_append_own _ hgd s x 53 ho B 66 i0 _ 3 40 Tryz.underlying53 hi hz0 hz1 hz2 rfl (by decide) v l.length (chC l) hs (World.ownsRow.alloc hrow _) ⟨w.heap.size,0,none⟩ 1 1 [.string c.1,c.2,.bool false] hx rfl (fun j u hj=>by rw[hadd,Nat.zero_add,cell_new];simpa using hj) (fun u hj=>by simp at hj;rcases hj with rfl | rfl | rfl;rfl;exact hu;rfl) (by unfold maxLen;omega) (by omega) (by simp;omega) ?_
 intro v' w1 hown1 hgr _
 refine h _ w1 ?_ ?_
 ·unfold OwnC chC
  rw[List.flatMap_append,List.length_append]
  exact hown1
 ·exact((Below.refl B w).alloc hB _).grown hgr (by simp;omega) (fun k hk=>(hrow.lt k hk).1)
def PutQ(s:ByteArray)(w:World)(e:Ending)(w':World):Prop:=e=.returned (.string s)∧Below w.heap.size w w'
set_option maxRecDepth 100000 in
set_option maxHeartbeats 4000000 in
theorem putting_any(b m:Nat)(S:Nat→Prop)(g:ByteArray→Option A)(kv:Value)(ks:List ByteArray)(w:World)(h:MapA w S b m g)(hk:StrRow w kv ks)(hl:ks.length≤100000)(hks:∀k∈ks,k.size≤maxLen∧(g k).isSome=true)
  (hs:sz (trA (ks.map fun k=>(k,g k))) 0≤140737488355328):Calls Tryz.prog 89 #[.map (some b),kv] w (PutQ (prt (trA (ks.map fun k=>(k,g k)))) w):=by
 obtain⟨p,cap,rfl,hcap,hrow⟩:=hk
 obtain⟨_,f,hm,hf⟩:=h
 obtain⟨n,hn⟩:=(⟨_,rfl⟩:∃n,ks.length=n)
 have HN:=Lib.hid hn
 have HRW:=Lib.hid hrow
 have HM:=Lib.hid hm
 have HF:=Lib.hid hf
 have HK:=Lib.hid hks
 have HS:=Lib.hid hs
 obtain⟨s9,hs9⟩:=(⟨_,rfl⟩:∃s,prt (trA (ks.map fun k=>(k,g k)))=s)
 have HE9:=Lib.hid hs9
 rw[hn]at hcap hl ⊢
 rw[hs9]
 clear hrow hn hs hm hf hks hs9
 go_enter Tryz.func89,Tryz.ntmps89
 go_wp2
 go_loopw [5,12] (fun v i wr=>∃(j:Nat) (l:List (ByteArray×Value)),j≤n∧l.length=j∧i=.int .i64 (j:Int)∧Hid (OwnC wr w.heap.size v l)∧Hid (Below w.heap.size w wr)∧Hid (∀(i:Nat) (x:ByteArray×Value),l[i]?=some x→ks[i]?=some x.1∧∃a,g x.1=some a∧AAt w S x.2 a)) (fun _ i _=>n-(intOf i).toNat)
 case atStart=>exact⟨0,[],Nat.zero_le _,rfl,rfl,Lib.hid (World.ownsRow_nil w w.heap.size 66 3),Lib.hid (Below.refl _ _),Lib.hid fun i x hx=>by simp at hx⟩
 case round =>
  obtain⟨j,l,hj,hlj,rfl,hO,hBr,hX⟩:=hrel
  by_cases hlt:j<n
  ·have hlti:(j:Int)<(n:Int):=by omega
   obtain⟨k,hkj⟩:∃k,ks[j]?=some k:=⟨ks[j]'(by have:=HN.out;omega),List.getElem?_eq_getElem _⟩
   obtain⟨b',o,rfl,e1,e2⟩:=HRW.out j k hkj
   have cu:wr.cell? ⟨b',o+j,none⟩=some (.string k):=(hBr.out.cell (p:=⟨b',o+j,none⟩) e1).trans e2
   obtain⟨hk1,hk2⟩:=HK.out k (List.mem_of_getElem? hkj)
   obtain⟨v,a,f1,f2,f3⟩:∃v a,f k=some v∧g k=some a∧AAt w S v a:=by
    rcases HF.out k with⟨_,h0⟩ | h
    ·rw[h0]at hk2;cases hk2
    ·exact h
   have hlk:=((HM.out.below hBr.out).look k hk1).2
   rw[f1]at hlk
   have hlk':(Instr.lookup 84 (.map (some b)) (.string k) false).run Tryz.prog wr=.ok v wr:=hlk
   have hjc:j<cap:=by omega
   have hsh:=aat_shape f3
   have hone:=f3.one
   have hX2:Hid (∀(i:Nat) (x:ByteArray×Value),(l++[(k,v)])[i]?=some x→ks[i]?=some x.1∧∃a,g x.1=some a∧AAt w S x.2 a):=Lib.hid fun i x hx=>by
    by_cases e:i<j
    ·rw[List.getElem?_append_left (by omega)]at hx
     exact hX.out i x hx
    ·have hi:i=j:=by
      have:=(List.getElem?_eq_some_iff.1 hx).1
      simp at this
      omega
     subst hi
     rw[List.getElem?_append_right (by omega),hlj,Nat.sub_self]at hx
     simp at hx
     subst hx
     exact⟨hkj,a,f2,f3⟩
   have hzr:=hBr.out.size
   clear e1 e2 hlk f1 f2 f3 hX hkj hk2
   rcases hsh with⟨t0,x0,rfl⟩ | rfl
   all_goals
    go_wp2_with (first | (at_builtin;refine wpList_chg rfl (.tmp 16) (.tmp 22) rfl wr w.heap.size u5 l (k,_) hone rfl rfl hO.out rfl (by omega) hzr ?_;intro v' w2 hO2 hB2) | go_in)
    go_roundw
    case rel=>exact⟨j+1,_,by omega,by simp[hlj],by go_num,Lib.hid hO2,Lib.hid (hBr.out.trans hB2),hX2⟩
    case measure=>simp[intOf];omega
  ·obtain rfl:j=n:=by omega
   have hlti:¬(j:Int)<(j:Int):=by omega
   have hkl:l.map (·.1)=ks:=by
    refine List.ext_getElem? fun i=>?_
    rw[List.getElem?_map]
    cases h:l[i]? with
    |none =>
     have h1:l.length≤i:=List.getElem?_eq_none_iff.1 h
     have:=HN.out
     exact(List.getElem?_eq_none (by omega)).symm
    |some x=>exact((hX.out i x h).1).symm
   have hCR:ChRow wr u5 (ks.map fun k=>(k,g k)):=by
    have hlen:(ks.map fun k=>(k,g k)).length=l.length:=by rw[List.length_map,←hkl,List.length_map]
    have hel:∀(i:Nat) (c:Ch),(ks.map fun k=>(k,g k))[i]?=some c→∃x,l[i]?=some x∧c.1=x.1∧c.2=g x.1:=fun i c hc=>by
     rw[←hkl,List.map_map,List.getElem?_map]at hc
     cases h:l[i]? with
     |none=>rw[h]at hc;cases hc
     |some x=>rw[h]at hc;cases hc;exact⟨x,rfl,rfl,rfl⟩
    rcases hO.out.2 with⟨e,h0⟩ | ⟨gb,cap2,cur,e,hb,hg,h1,h2,h3,h4⟩
    ·refine⟨none,0,by rw[hlen,h0];exact e,by rw[hlen,h0];exact Nat.le_refl _,fun i c hc=>?_⟩
     obtain⟨x,hx,_⟩:=hel i c hc
     rw[List.eq_nil_of_length_eq_zero h0]at hx
     simp at hx
    ·refine⟨_,cap2,by rw[hlen];exact e,by rw[hlen];exact h1,fun i c hc=>?_⟩
     obtain⟨x,hx,e1,e2⟩:=hel i c hc
     obtain⟨_,a,ha,hv⟩:=hX.out i x hx
     obtain⟨d0,d1,d2⟩:=chC_get l i x hx
     have hmem:x.1∈ks:=by rw[←hkl];exact List.mem_map.2 ⟨x,List.mem_of_getElem? hx,rfl⟩
     have hcl:∀(k:Nat) (u:Value),(chC l)[k]?=some u→wr.cell? ⟨gb,0+k,none⟩=some u:=fun k u hk=>by
      have:=hO.out.cells (g:=gb) (by rw[e];rfl) k u hk
      rwa [hadd]at this
     refine⟨by rw[e1];have:=(HK.out x.1 hmem).1;unfold maxLen at this;omega,gb,0,x.2,false,rfl,(Array.getElem?_eq_some_iff.1 hg).1,aat_shape hv,by rw[e1];exact hcl _ _ d0,?_,?_,Or.inr ⟨a,rfl,by rw[e2,ha],hv.has.below hBr.out⟩⟩
     ·exact hcl _ _ d1
     ·exact hcl _ _ d2
   have hP:=Lib.hid (printed_tr (ks.map fun k=>(k,g k)) u5 wr hCR (by rw[List.length_map];have:=HN.out;omega) HS.out)
   unfold PrintQ at hP
   rw[HE9.out]at hP
   clear hkl hCR hO hX
   go_wp2_with (go_at_call 32;fail)
   refine hP.out.mono ?_
   rintro e w3 ⟨rfl,hB3⟩
   have hB4:=Lib.hid (hBr.out.trans (hB3.mono hBr.out.size))
   clear hP hB3
   go_wp2
   go_ret
   exact⟨rfl,hB4.out⟩
end Go.Proofs.YtlogjpmdfimgdaaGreatDoor
namespace Go.Own.Sr
open Go Go.RowKit
def rnd(l:Nat):Fence:=Fence.wide.inRound l
section
variable{P:Program}{ops:Array Oper}{Q:Exit→Act→World→Prop}{l n:Nat}
theorem calls_rnd{f:FuncId}{args:Array Value}{w:World}{R:Ending→World→Prop}(h:Calls P f args w R):CallsIn (rnd l) n P f args w R :=
 CallsIn.inRound l (callsIn_wide.2 h)
theorem rows_rnd{row:String}{args:Array Value}{w:World}{R:Value→World→Prop}(h:Rows P row args w R):RowsIn (rnd l) n P row args w R :=
 fun c cs _=>let ⟨v,w',r,s⟩:=h c cs;⟨v,w',r,stepsIn_wide.2 s⟩
theorem operIn_rnd{o:Oper}{a:Act}{w:World}{K K':Act→World→Prop}(hd:∀c,o.op≠.defer c)(hK:∀a w,K a w→K' a w)(h:o.wp P a w K Q):o.wpIn (rnd l) n P a w K' Q:=by
 refine⟨fun _ _=>trivial,?_⟩
 rw[Oper.semAt_eq _ _ _ hd]
 unfold Oper.wp at h
 generalize (execOp a.eval o).run P w=r at h
 cases r with
 |ok x w' =>
  cases x with
  |value v=>exact hK _ _ h
  |skip=>exact hK _ _ h
  |defer d=>exact hK _ _ h
  |enter f args =>
   refine⟨fun h0=>(by cases h0),calls_rnd (Calls.mono h ?_)⟩
   intro e w2 he
   cases e with
   |returned v=>exact hK _ _ he
   |panicked c=>exact he
   |outgrown=>exact he
  |row r args =>
   refine⟨fun h0=>(by cases h0),rows_rnd (Rows.mono h ?_)⟩
   intro v w2 he
   exact hK _ _ he
  |_=>exact h.elim
 |halt h' w'=>cases h' <;> first | exact h | exact h.elim
theorem wpOpIn_rnd{i:Nat}{a:Act}{w:World}{K K':Act→World→Prop}(hL:¬LetsOut Q)(hd:∀o:Oper,ops[i]?=some o→∀c,o.op≠.defer c)(hK:∀a w,K a w→K' a w)(h:wpOp P ops Q i K a w) :
  wpOpIn (rnd l) n P ops Q i K' a w:=by
 unfold wpOp at h
 unfold wpOpIn
 cases ho:ops[i]? with
 |none=>rw[ho]at h;exact hK _ _ h
 |some o =>
  rw[ho]at h
  simp only at h ⊢
  split
  ·rename_i hw
   rw[if_pos hw]at h
   rcases h with h | h
   ·exact operIn_rnd (hd o ho) hK h
   ·exact absurd h.2 hL
  ·rename_i hw
   rw[if_neg hw]at h
   exact⟨fun _ _=>trivial,hK _ _ h⟩
theorem wpAnyIn_rnd(hL:¬LetsOut Q)(hd:∀(i:Nat) (o:Oper),ops[i]?=some o→∀c,o.op≠.defer c){md:Region.Mode}:∀(fuel:Nat) (done:Array Bool) (a:Act) (w:World),wpAny P md ops Q fuel done a w→wpAnyIn (rnd l) n P md ops Q fuel done a w
 |0,_,_,_,h=>h
 |fuel+1,_,_,_,h=>⟨h.1,fun i hi=>wpOpIn_rnd hL (hd i) (fun _ _ h=>wpAnyIn_rnd hL hd fuel _ _ _ h) (h.2 i hi)⟩
theorem wpListIn_rnd(hL:¬LetsOut Q):∀(L:List Oper) (a:Act) (w:World),(∀o∈L,∀c,o.op≠.defer c)→wpList P ops Q L a w→wpListIn (rnd l) n P ops Q L a w
 | [],_,_,_,h=>h
 |o :: rest,a,w,hd,h=>by
  unfold wpList at h
  unfold wpListIn
  split
  ·rename_i hw
   rw[if_pos hw]at h
   rcases h with h | h
   ·exact operIn_rnd (hd o List.mem_cons_self) (fun _ _ h=>wpListIn_rnd hL rest _ _ (fun o ho=>hd o (List.mem_cons_of_mem _ ho)) h) h
   ·exact absurd h.2 hL
  ·rename_i hw
   rw[if_neg hw]at h
   exact⟨fun _ _=>trivial,wpListIn_rnd hL rest _ _ (fun o ho=>hd o (List.mem_cons_of_mem _ ho)) h⟩
def noDefer(ops:Array Oper):Bool:=ops.all fun o=>match o.op with | .defer _=>false | _=>true
theorem noDefer_at(h:noDefer ops=true):∀(i:Nat) (o:Oper),ops[i]?=some o→∀c,o.op≠.defer c:=by
 intro i o ho c hc
 unfold noDefer at h
 have:=Array.all_eq_true_iff_forall_mem.1 h o (Array.mem_of_getElem? ho)
 rw[hc]at this
 cases this
theorem region_rnd{id:Nat}{a:Act}{w:World}(hm:P.follows .mixedOrders=true)(hn:noDefer ops=true)(hL:¬LetsOut Q)
  (h:wpAny P .any ops Q ops.size (Array.replicate ops.size false) a { w with drawn:=w.drawn+1 }):(Code.region id ops true).wpIn (rnd l) n P Q a w :=
 wpIn_region_any hm (wpAnyIn_rnd hL (noDefer_at hn) _ _ _ _ h)
theorem region_rnd_lit{id:Nat}{L:List Oper}{a:Act}{w:World}(hn:noDefer L.toArray=true)(hL:¬LetsOut Q)
  (h:wpList P L.toArray Q L a w):(Code.region id L.toArray false).wpIn (rnd l) n P Q a w :=
 wpIn_region_lit (wpListIn_rnd hL _ _ _ (fun o ho=>by
  obtain⟨i,hi⟩:=List.mem_iff_getElem?.1 ho
  exact noDefer_at hn i o (by simpa using hi)) h)
end
end Go.Own.Sr
namespace Go.Proofs.YtlogjpmdfimgdaaGreatDoor
open Go Go.RowKit Go.Own Go.Own.Sr Go.Shelf
def Keeps2(b c:Nat)(A B:World):Prop:=(∀o,A.heap[b]?=some o→B.heap[b]?=some o)∧∀o,A.heap[c]?=some o→B.heap[c]?=some o
def encK(b o n k:Nat):Array Value:=#[.slice (some ⟨b,o+k*16,none⟩) (min 16 (n-k*16)) (min 16 (n-k*16))]
set_option maxRecDepth 100000 in
set_option maxHeartbeats 1000000 in
theorem chunk_stops(b o n cap b1 b2 m:Nat)(hc:n≤cap)(hn:n≤1000000)(w:World)(h1:w.heap[b1]?=some (.cells #[.slice (some ⟨b,o,none⟩) n cap] 29 (0,0)))(h2:w.heap[b2]?=some (.cells #[.int .i64 16] 3 (0,0))) :
  SeqStopsK Fence.wide m Tryz.prog 125 #[.pointer (some ⟨b1,0,none⟩),.pointer (some ⟨b2,0,none⟩)] (encK b o n) (Keeps2 b1 b2) (fun xs=>xs=List.range ((n+15)/16)) (fun _=>True) ((n+15)/16) w:=by
 intro l J Jx W hW hJ hJx hY h0
 have g1:=(hW.block b1 (Array.getElem?_eq_some_iff.1 h1).1).trans h1
 have g2:=(hW.block b2 (Array.getElem?_eq_some_iff.1 h2).1).trans h2
 obtain⟨N,hN⟩:∃N,(n+15)/16=N:=⟨_,rfl⟩
 rw[hN]at hY ⊢
 have HY:=Lib.hid hY
 have H0:=Lib.hid h0
 have HN:Hid (16*N<n+16∧n≤16*N):=Lib.hid (by omega)
 have HG:=Lib.hid (And.intro g1 g2)
 have HD:Hid (∀(xs:List Nat) (A:World),J xs A→J xs A.drew):=Lib.hid fun xs A h=>hJ xs A _ none h ⟨rfl,rfl,rfl,Nat.le_refl _,fun _ _ _=>rfl⟩ (fun r e=>by cases e)
 clear hY h0 hW hJ hJx hN h1 h2 g1 g2
 refine callsIn_of_wp Tryz.func125 rfl trivial ?_ rfl
 simp only[Tryz.ntmps125,List.size_toArray,List.length_cons,List.length_nil,Nat.reduceAdd,Nat.reduceSub,Array.replicate_succ,Array.replicate_zero,List.push_toArray,List.append_toArray,List.nil_append,List.cons_append]
 gi_wp2
 gi_loopw [4] (fun i wr=>∃k:Nat,k≤N∧i=.int .i64 ((k*16:Nat):Int)∧Hid (wr.heap[b1]?=some (.cells #[.slice (some ⟨b,o,none⟩) n cap] 29 (0,0))∧wr.heap[b2]?=some (.cells #[.int .i64 16] 3 (0,0)))∧Hid (J (List.range k) wr)) (fun i _=>1000000+32-(intOf i).toNat)
 case atStart=>exact⟨0,by omega,rfl,HG,H0⟩
 case round =>
  obtain⟨k,hk,rfl,hB,hJ⟩:=hrel
  have c1:wr.cell? ⟨b1,0,none⟩=some (.slice (some ⟨b,o,none⟩) n cap):=by unfold World.cell?;simp[hB.out.1]
  have c2:wr.cell? ⟨b2,0,none⟩=some (.int .i64 16):=by unfold World.cell?;simp[hB.out.2]
  by_cases hlt:k<N
  ·obtain⟨fn,tmps,assign,body,hy,hR⟩:=HY.out (List.range k) k wr.drew (HD.out _ _ hJ.out) (by rw[List.length_range];exact hlt)
   unfold encK at hy
   obtain⟨i,hi⟩:∃i,k*16=i:=⟨_,rfl⟩
   have hin:i<n:=by have:=HN.out;omega
   obtain⟨z,hz⟩:∃z,min 16 (n-i)=z:=⟨_,rfl⟩
   rw[hi,hz]at hy
   rw[hi]
   have hini:(i:Int)<(n:Int):=by omega
   have hz1:min 16 (((n-i:Nat):Int))=(z:Int):=by omega
   have hzn:i+z≤n:=by omega
   have hzn2:(i:Int)+(z:Int)≤(n:Int):=by omega
   have hzc:(i:Int)+(z:Int)≤(cap:Int):=by omega
   have hi0:(0:Int)≤(i:Int):=by omega
   have hz0:(0:Int)≤(z:Int):=by omega
   have hii:(i:Int)≤(i:Int)+(z:Int):=by omega
   have hzne:¬z=0:=by omega
   have hizne:¬i+z=i:=by omega
   have hic:i≤cap:=by omega
   have HI:=Lib.hid (And.intro hi hz)
   clear hi hz hJ
   gi_wp2_with fail
   gi_region
   have d1:wr.drew.cell? ⟨b1,0,none⟩=some (.slice (some ⟨b,o,none⟩) n cap):=c1
   have d2:wr.drew.cell? ⟨b2,0,none⟩=some (.int .i64 16):=c2
   obtain⟨wd,hwd⟩:∃W,wr.drew=W:=⟨_,rfl⟩
   have hBd:=Lib.hid (show wd.heap[b1]?=some (.cells #[.slice (some ⟨b,o,none⟩) n cap] 29 (0,0))∧wd.heap[b2]?=some (.cells #[.int .i64 16] 3 (0,0)) by rw[←hwd];exact hB.out)
   rw[hwd]at hy hR d1 d2 ⊢
   clear hwd c1 c2 hB hz1
   try go_frame
   gi_wp2_with fail
   refine⟨fun h0=>(by cases h0),hR.mono ?_⟩
   rintro e' W' (⟨rfl,hJ',hk'⟩ | ⟨rfl,hJx'⟩)
   ·rw[←List.range_succ]at hJ'
    have HJ':=Lib.hid hJ'
    have HB':=Lib.hid (And.intro (hk'.1 _ hBd.out.1) (hk'.2 _ hBd.out.2))
    have e2:W'.cell? ⟨b2,0,none⟩=some (.int .i64 16):=by unfold World.cell?;simp[HB'.out.2]
    clear hJ' hk' hBd d1 d2
    gi_wp2
    go_roundw
    case rel=>exact⟨k+1,hlt,by have:=HI.out;congr 1;omega,HB',HJ'⟩
    case measure=>simp[intOf];omega
   ·gi_wp2
    refine bodyPost_ret (results_none rfl _ _ _) rfl ?_
    exact⟨⟨_,rfl⟩,.inr ⟨_,trivial,hJx'⟩⟩
  ·obtain rfl:k=N:=by omega
   have hge:¬((k*16:Nat):Int)<(n:Int):=by have:=HN.out;omega
   obtain⟨i,hi⟩:∃i,k*16=i:=⟨_,rfl⟩
   rw[hi]at hge ⊢
   clear hi
   gi_wp2
   go_end0
   exact⟨⟨_,rfl⟩,.inl hJ.out⟩
end Go.Proofs.YtlogjpmdfimgdaaGreatDoor

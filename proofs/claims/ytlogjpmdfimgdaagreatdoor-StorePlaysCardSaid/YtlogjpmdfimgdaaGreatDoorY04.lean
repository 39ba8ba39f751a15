/- StorePlays' function, on journals on disks. No condition but the weights. -/
import Derived.Test.YtlogjpmdfimgdaaGreatDoorY03
import Derived.Test.YtlogjpmdfimgdaaGreatDoorX17
namespace Go.Proofs.YtlogjpmdfimgdaaGreatDoor
open Go Go.RowKit Go.Own Go.Own.Fr Go.Maps Go.WideMaps
def alJ(σ:Sj)(m:Md):Prop:=m.half=σ.J.now.size∧m.taken=σ.J.now.used∧m.gen=σ.J.now.gen
theorem dsecs_eq(n:Nat):dsecs n=Jf.secs n:=by unfold dsecs Jf.secs;omega
theorem mgo_laysJ:∀(l:List (List Nat)) (h:Jf.Hf),(mgo h.size h.used (l.map List.length)=none→h.lays l=none)∧∀n,mgo h.size h.used (l.map List.length)=some n→∃k ls,h.lays l=some (k,ls)∧k.used=n
 | [],h=>⟨fun e=>by simp[mgo]at e,fun n e=>by
  simp only[List.map_nil,mgo,Option.some.injEq]at e
  exact⟨h,[],rfl,e⟩⟩
 |t :: l,h=>by
  have ih:=mgo_laysJ l (h.with t)
  have hs:(h.with t).size=h.size:=rfl
  have hu:(h.with t).used=h.used+dsecs t.length:=by rw[dsecs_eq];rfl
  rw[hs,hu]at ih
  have hr:(65535<t.length∨h.size<h.used+dsecs t.length)↔h.room<(t.length:Int):=by
   unfold Jf.Hf.room dsecs
   constructor
   ·intro h';omega
   ·intro h';omega
  by_cases hc:h.room<(t.length:Int)
  ·refine⟨fun _=>by rw[Jf.Hf.lays,if_pos hc],fun n e=>?_⟩
   rw[List.map_cons,mgo,if_pos (hr.2 hc)]at e;cases e
  ·have hc':¬(65535<t.length∨h.size<h.used+dsecs t.length):=fun h'=>hc (hr.1 h')
   refine⟨fun e=>?_,fun n e=>?_⟩
   ·rw[List.map_cons,mgo,if_neg hc']at e
    rw[Jf.Hf.lays,if_neg hc,ih.1 e]
   ·rw[List.map_cons,mgo,if_neg hc']at e
    obtain⟨k,ls,h1,h2⟩:=ih.2 n e
    exact⟨k,_,by rw[Jf.Hf.lays,if_neg hc,h1],h2⟩
theorem dsome_map(l:List (List Nat)):dsome (l.map List.length)=(Jf.someL l).map List.length:=by
 unfold dsome Jf.someL
 by_cases h:l=[]
 ·subst h;rfl
 ·rw[if_neg h,if_neg (by simpa using h)]
theorem twinJ:Twin okJ txJ apE apS anE anS alJ where
 hlf:=fun s m hg ha=>by
  obtain⟨h1,h2,h3⟩:=ha
  have h4:=hg.1.good.fits
  have h5:=hg.1.small
  omega
 app:=fun s m t hg ha ht=>by
  obtain⟨a1,a2,a3⟩:=ha
  have hb:=hg.1.append t ht
  have hrm:m.room=s.J.now.room:=by unfold Md.room Jf.Hf.room;rw[a1,a2]
  unfold Md.app
  rw[hrm]
  by_cases hr:s.J.now.room<(t.length:Int)
  ·rw[if_pos hr]
   have e:=hb.1 hr
   unfold apE apS
   rw[e]
   exact⟨rfl,⟨a1,a2,a3⟩,fun h=>by simp at h,fun _=>rfl⟩
  ·rw[if_neg hr]
   obtain⟨M',e,_,_,_⟩:=hb.2 hr
   unfold apE apS
   rw[e]
   exact⟨rfl,⟨a1,by rw[a2,dsecs_eq];rfl,by rw[a3];rfl⟩,fun _=>rfl,fun h=>absurd rfl h⟩
 anew:=fun s m ts hg ha hgn ht hne=>by
  obtain⟨a1,a2,a3⟩:=ha
  have hb:=hg.1.anew ts ht (by omega)
  have hm:=mgo_laysJ (Jf.someL ts) ⟨s.J.now.size-s.J.now.first,s.J.now.size,s.J.now.gen+1,0,[]⟩
  unfold Md.anew
  rw[a1,dsome_map]
  cases hg2:mgo s.J.now.size 0 ((Jf.someL ts).map List.length)with
  |none =>
   have e:=hb.1 (hm.1 hg2)
   unfold anE anS
   rw[e]
   exact⟨rfl,⟨a1,a2,a3⟩,fun h=>by simp at h,fun _=>rfl⟩
  |some n =>
   obtain⟨k,ls,h1,h2⟩:=hm.2 n hg2
   obtain⟨M',e,_,_,_⟩:=hb.2 k ls h1
   have ho:=Jf.lays_ok _ _ _ _ h1
   unfold anE anS
   rw[e]
   refine⟨rfl,⟨ho.size.symm,h2.symm,by show m.gen+1=k.gen;rw[ho.gen,a3]⟩,fun _=>?_,fun h=>absurd rfl h⟩
   show k.texts=ts
   have:=ho.texts
   unfold Jf.someL at this
   rw[if_neg hne]at this
   simpa using this
theorem storePlays_any(w:World)(hR:Jf.Sm.Roots w)(size:Int)
  (L:List Ac) (p:Option Addr) (cap:Nat) (pre:ByteArray) (hL:InAct w (.slice p L.length cap) L) (hLn:L.length≤2513169434900) (hsz:∀a∈L,a.l.length≤140737488355328∧∀x∈a.l,x.1.size≤140737488355328) :
  Calls Tryz.prog 3 #[.int .i64 size,.slice p L.length cap,.string pre] w (TrueQ w.heap.size w):=by
 refine plays_of (jourJ w hR) goesJ twinJ (fun σ=>⟨w.heap.size+σ.i,0,none⟩) (fun _ _=>rfl) (fun _ _=>rfl) ?_ w rfl (wake_any w hR) size (fun h8 h200 he W hB=>?_) L p cap pre hL hLn hsz
 ·rintro O W' jp σ ⟨P,l,d,s,q,jo,rfl,rfl,hst,hok,hO⟩ _
  refine(open_js w hR hst.disk hok.1 hok.2).mono ?_
  rintro e w2 ⟨O2,jp2,he,hj,hb,hk⟩
  exact⟨O2,jp2,he,hj,hb,fun k h=>(hk k h).imp (hO k).2 id⟩
 ·obtain⟨n,rfl⟩:∃n:Nat,size=(n:Int):=⟨size.toNat,by omega⟩
  obtain⟨i,hnew⟩:=new_js w hR n (by omega) (by omega) (by omega) W hB
  exact⟨_,hnew,⟨j0_open (by omega) (by omega) (by omega),rfl⟩,rfl,rfl,rfl,rfl⟩
end Go.Proofs.YtlogjpmdfimgdaaGreatDoor

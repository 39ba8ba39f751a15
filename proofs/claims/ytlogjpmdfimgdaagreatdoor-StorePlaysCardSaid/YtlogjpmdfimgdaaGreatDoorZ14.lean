/- A disk plainly: its bytes, what waits, what a cut and a failure leave; and a disk in memory. No condition. -/
import Derived.Test.YtlogjpmdfimgdaaGreatDoorZ04
import Derived.Test.YtlogjpmdfimgdaaGreatDoorZ13
namespace Go.Proofs.YtlogjpmdfimgdaaGreatDoor.Jf
open Go.RowKit Go.Own.Jf
def sec(x:List Nat)(k:Nat):List Nat:=(x.drop (k*64)).take 64
theorem sec_length{x:List Nat}{k n:Nat}(h:x.length=n*64)(hk:k<n):(sec x k).length=64:=by
 have:k*64+64≤n*64:=by omega
 simp[sec];omega
theorem sec_B8{x:List Nat}(h:B8 x)(k:Nat):B8 (sec x k):=(h.drop _).take _
theorem put_length{x s:List Nat}{k n:Nat}(h:x.length=n*64)(hk:k<n)(hs:s.length≤64):(spl x (k*64) s).length=n*64:=by
 rw[spl_length _ _ _ (by omega),h]
structure Dk where
 n:Nat
 seen:List Nat
 last:List Nat
 wait:List (Nat×List Nat)
 count:Nat
 cat:Int
 keep:Nat
 torn:Int
 off:Bool
structure Dk.Ok(M:Dk):Prop where
 n1:1≤M.n
 n2:M.n≤4096
 seenL:M.seen.length=M.n*64
 lastL:M.last.length=M.n*64
 seenB:B8 M.seen
 lastB:B8 M.last
 waitO:∀p∈M.wait,p.1<M.n∧p.2.length=64∧B8 p.2
 waitL:M.wait.length=min M.count 64
 cat0:0≤M.cat
 cat1:M.cat≤9223372036854775807
def Dk.waited(M:Dk)(a:Nat)(x:List Nat):Dk :=
 {M with seen:=spl M.seen (a*64) x,wait:=if M.count<64 then M.wait++[(a,x)]else M.wait,count:=M.count+1 }
theorem Dk.Ok.waited{M:Dk}(h:M.Ok){a:Nat}{x:List Nat}(ha:a<M.n)(hx:x.length=64)(hB:B8 x):(M.waited a x).Ok:=by
 refine⟨h.n1,h.n2,put_length h.seenL ha (by omega),h.lastL,h.seenB.spl hB _,h.lastB,?_,?_,h.cat0,h.cat1⟩
 ·intro p hp
  simp only[Dk.waited]at hp ⊢
  split at hp
  ·rcases List.mem_append.1 hp with hp | hp
   ·exact h.waitO p hp
   ·obtain rfl:=List.mem_singleton.1 hp
    exact⟨ha,hx,hB⟩
  ·exact h.waitO p hp
 ·have:=h.waitL
  simp only[Dk.waited]
  split
  ·rw[List.length_append,List.length_singleton];omega
  ·omega
def settleL(to src:List Nat)(ws:List (Nat×List Nat)):List Nat:=ws.foldl (fun t p=>spl t (p.1*64) (sec src p.1)) to
def Dk.settled(M:Dk)(to src:List Nat):List Nat:=settleL (if M.wait.length<M.count then src else to) src M.wait
def tearL(k:Nat)(t last:Int):Nat→List Nat→List (Nat×List Nat)→List Nat
 |_,x,[]=>x
 |i,x,p :: ws=>tearL k t last (i+1) (spl x (p.1*64) (p.2.take (keptN k t last i))) ws
def Dk.torned(M:Dk)(k:Nat)(t:Int):List Nat:=tearL k t ((M.count:Int)-1) 0 M.last M.wait
def Dk.crash(M:Dk)(k:Nat)(t:Int):Dk :=
 if M.off then M else { M with seen:=M.settled M.seen (M.torned k t),last:=M.torned k t,wait:=[],count:=0,cat:=0,keep:=0,torn:=0,off:=true }
def Dk.counted(M:Dk):Dk×Nat :=
 if M.cat=0 then (M,0)else if 0<M.cat-1 then ({ M with cat:=M.cat-1 },0)else (({ M with cat:=M.cat-1 }:Dk).crash M.keep M.torn,7)
def refE(o:Bool)(n:Nat)(x:Int):Nat:=if o then 7 else if x<0∨(n:Int)≤x then 1 else 0
def Dk.write(M:Dk)(x:Int)(s:List Nat):Dk×Nat :=
 if refE M.off M.n x=0 then (if 64<s.length then (M,3)else (M.waited x.toNat (filL s)).counted)else (M,refE M.off M.n x)
def Dk.read(M:Dk)(x:Int):List Nat×Nat:=if refE M.off M.n x=0 then (sec M.seen x.toNat,0)else ([],refE M.off M.n x)
def Dk.flushed(M:Dk):Dk:={ M with last:=M.settled M.last M.seen,wait:=[],count:=0 }
def Dk.flush(M:Dk):Dk×Nat :=
 if M.off then (M,7)else if M.counted.2=0 then (M.counted.1.flushed,0)else M.counted
def newK(n:Nat):Dk:=⟨n,rep (n*64),rep (n*64),[],0,0,0,0,false⟩
theorem settleL_length{src:List Nat}{n:Nat}(hs:src.length=n*64):∀(ws:List (Nat×List Nat)) (to:List Nat),to.length=n*64→(∀p∈ws,p.1<n)→(settleL to src ws).length=n*64
 | [],_,h,_=>h
 |p :: ws,_,h,hp=>by
  have hp0:=hp p (by simp)
  exact settleL_length hs ws _ (put_length h hp0 (by rw[sec_length hs hp0];omega)) fun q hq=>hp q (by simp[hq])
theorem settleL_B8{src:List Nat}(hs:B8 src):∀(ws:List (Nat×List Nat)) (to:List Nat),B8 to→B8 (settleL to src ws)
 | [],_,h=>h
 |_ :: ws,_,h=>settleL_B8 hs ws _ (h.spl (sec_B8 hs _) _)
theorem tearL_length{k:Nat}{t last:Int}{n:Nat}:∀(ws:List (Nat×List Nat)) (i:Nat) (x:List Nat),x.length=n*64→(∀p∈ws,p.1<n∧p.2.length=64)→(tearL k t last i x ws).length=n*64
 | [],_,_,h,_=>h
 |p :: ws,i,x,h,hp=>by
  have hp0:=hp p (by simp)
  exact tearL_length ws _ _ (put_length h hp0.1 (by rw[List.length_take,hp0.2];omega)) fun q hq=>hp q (by simp[hq])
theorem tearL_B8{k:Nat}{t last:Int}:∀(ws:List (Nat×List Nat)) (i:Nat) (x:List Nat),B8 x→(∀p∈ws,B8 p.2)→B8 (tearL k t last i x ws)
 | [],_,_,h,_=>h
 |p :: ws,i,x,h,hp=>tearL_B8 ws _ _ (h.spl ((hp p (by simp)).take _) _) fun q hq=>hp q (by simp[hq])
theorem Dk.Ok.settledL{M:Dk}(h:M.Ok){to src:List Nat}(ht:to.length=M.n*64)(hs:src.length=M.n*64):(M.settled to src).length=M.n*64:=by
 unfold Dk.settled
 refine settleL_length hs _ _ ?_ fun p hp=>(h.waitO p hp).1
 split <;> assumption
theorem Dk.Ok.settledB{M:Dk}{to src:List Nat}(ht:B8 to)(hs:B8 src):B8 (M.settled to src):=by
 unfold Dk.settled
 refine settleL_B8 hs _ _ ?_
 split <;> assumption
theorem Dk.Ok.tornedL{M:Dk}(h:M.Ok)(k:Nat)(t:Int):(M.torned k t).length=M.n*64:=tearL_length _ _ _ h.lastL fun p hp=>⟨(h.waitO p hp).1,(h.waitO p hp).2.1⟩
theorem Dk.Ok.tornedB{M:Dk}(h:M.Ok)(k:Nat)(t:Int):B8 (M.torned k t):=tearL_B8 _ _ _ h.lastB fun p hp=>(h.waitO p hp).2.2
theorem Dk.Ok.crash{M:Dk}(h:M.Ok)(k:Nat)(t:Int):(M.crash k t).Ok:=by
 unfold Dk.crash
 split
 ·exact h
 ·exact⟨h.n1,h.n2,h.settledL h.seenL (h.tornedL k t),h.tornedL k t,Dk.Ok.settledB h.seenB (h.tornedB k t),h.tornedB k t,fun p hp=>by simp at hp,by simp,by simp,by simp⟩
theorem Dk.Ok.cut{M:Dk}(h:M.Ok)(hc:M.cat≠0):({ M with cat:=M.cat-1 }:Dk).Ok :=
 ⟨h.n1,h.n2,h.seenL,h.lastL,h.seenB,h.lastB,h.waitO,h.waitL,by have:=h.cat0;show 0≤M.cat-1;omega,by have:=h.cat1;show M.cat-1≤_;omega⟩
theorem Dk.Ok.flushed{M:Dk}(h:M.Ok):M.flushed.Ok :=
 ⟨h.n1,h.n2,h.seenL,h.settledL h.lastL h.seenL,h.seenB,Dk.Ok.settledB h.lastB h.seenB,fun p hp=>by simp[Dk.flushed]at hp,by simp[Dk.flushed],h.cat0,h.cat1⟩
theorem newK_ok{n:Nat}(h1:1≤n)(h2:n≤4096):(newK n).Ok:=⟨h1,h2,by simp[newK],by simp[newK],B8.rep _,B8.rep _,fun p hp=>by simp[newK]at hp,rfl,by simp[newK],by simp[newK]⟩
def wcs(ws:List (Nat×List Nat)):List Value:=ws.flatMap fun p=>(wv p.1 p.2).toList
theorem wcs_append(a b:List (Nat×List Nat)):wcs (a++b)=wcs a++wcs b:=by simp[wcs]
theorem wcs_one(a:Nat)(x:List Nat):wcs [(a,x)]=(wv a x).toList:=by simp[wcs]
theorem wcs_get:∀ {ws:List (Nat×List Nat)} {k a:Nat} {x:List Nat},(∀p∈ws,p.2.length=64)→ws[k]?=some (a,x)→((wcs ws).drop (k*65)).take 65=(wv a x).toList
 | [],k,a,x,_,h=>by simp at h
 |p :: ws,0,a,x,hp,h=>by
  obtain rfl:p=(a,x):=by simpa using h
  have hl:(wv a x).toList.length=65:=by rw[Array.length_toList,wv_size,hp (a,x) (by simp)]
  rw[Nat.zero_mul,List.drop_zero]
  show ((wv a x).toList++wcs ws).take 65=_
  rw[List.take_append_of_le_length (by omega),List.take_of_length_le (by omega)]
 |p :: ws,k+1,a,x,hp,h=>by
  have hl:(wv p.1 p.2).toList.length=65:=by rw[Array.length_toList,wv_size,hp p (by simp)]
  have ih:=wcs_get (ws:=ws) (k:=k) (a:=a) (x:=x) (fun q hq=>hp q (by simp[hq])) (by simpa using h)
  show (((wv p.1 p.2).toList++wcs ws).drop ((k+1)*65)).take 65=_
  rw[show (k+1)*65=(wv p.1 p.2).toList.length+k*65 by omega,List.drop_append,List.drop_of_length_le (by omega),List.nil_append,Nat.add_sub_cancel_left]
  exact ih
structure DAt(w:World)(l:List Obj)(i s q:Nat)(vw:Value)(O:Nat→Prop)(M:Dk):Prop where
 hd:l[i]?=some (.cells (dc (.slice (some ⟨w.heap.size+s,0,none⟩) M.n M.n) (.slice (some ⟨w.heap.size+q,0,none⟩) M.n M.n) vw M.count M.cat M.keep M.torn M.off) 104 (0,0))
 hs:l[s]?=some (.cells (cv .u8 M.seen) 208 (0,0))
 hq:l[q]?=some (.cells (cv .u8 M.last) 208 (0,0))
 hw:RowV (fun p=>¬O p∧p≠i∧p≠s∧p≠q) w l 65 M.wait.length vw (wcs M.wait)
 is:i≠s
 iq:i≠q
 sq:s≠q
 Oi:¬O i
 Os:¬O s
 Oq:¬O q
 ok:M.Ok
theorem DAt.keep{w:World}{l l':List Obj}{i s q:Nat}{vw:Value}{O O':Nat→Prop}{M:Dk}(h:DAt w l i s q vw O M)(hl:∀p,¬O p→p<l.length→¬O' p∧l'[p]?=l[p]?):DAt w l' i s q vw O' M:=by
 have li:=hl i h.Oi (List.getElem?_eq_some_iff.1 h.hd).1
 have ls:=hl s h.Os (List.getElem?_eq_some_iff.1 h.hs).1
 have lq:=hl q h.Oq (List.getElem?_eq_some_iff.1 h.hq).1
 exact⟨by rw[li.2];exact h.hd,by rw[ls.2];exact h.hs,by rw[lq.2];exact h.hq,h.hw.mono fun p hp hlt=>⟨⟨(hl p hp.1 hlt).1,hp.2⟩,(hl p hp.1 hlt).2⟩,h.is,h.iq,h.sq,li.1,ls.1,lq.1,h.ok⟩
def Kp(O:Nat→Prop)(l l':List Obj):Prop:=l.length≤l'.length∧∀p,O p→p<l.length→l'[p]?=l[p]?
theorem Kp.refl(O:Nat→Prop)(l:List Obj):Kp O l l:=⟨Nat.le_refl _,fun _ _ _=>rfl⟩
theorem Kp.trans{O:Nat→Prop}{a b c:List Obj}(h:Kp O a b)(k:Kp O b c):Kp O a c :=
 ⟨Nat.le_trans h.1 k.1,fun p hp hlt=>by rw[k.2 p hp (Nat.lt_of_lt_of_le hlt h.1),h.2 p hp hlt]⟩
theorem Kp.app(O:Nat→Prop)(l g:List Obj):Kp O l (l++g):=⟨by simp,fun p _ hlt=>List.getElem?_append_left hlt⟩
theorem Kp.set{O:Nat→Prop}{l:List Obj}{i:Nat}(h:¬O i)(X:Obj):Kp O l (l.set i X) :=
 ⟨by simp,fun p hp _=>by
  have hne:i≠p:=fun e=>by subst e;exact h hp
  rw[List.getElem?_set_ne hne]⟩
end Go.Proofs.YtlogjpmdfimgdaaGreatDoor.Jf

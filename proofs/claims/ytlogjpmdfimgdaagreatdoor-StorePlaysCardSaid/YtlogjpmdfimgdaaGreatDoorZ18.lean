/- A journal plainly: records, halves, the writes and flushes that lay them. No condition. | Records: what was laid is taken; what is taken hangs on its own sectors alone. No condition. -/
import Derived.Test.YtlogjpmdfimgdaaGreatDoorZ17
import Derived.Test.YtlogjpmdfimgdaaGreatDoorZ09
namespace Go.Proofs.YtlogjpmdfimgdaaGreatDoor.Jf
open Go.RowKit Go.Own.Jf
def be(k n:Nat):List Nat:=(List.range k).map fun i=>n/2 ^ (8*(k-1-i))%256
def val(s:List Nat):Nat:=s.foldl (fun n b=>n*256+b) 0
def secs(k:Nat):Nat:=(k+113)/64
def bodyL(g n:Nat)(t:List Nat):List Nat:=[76]++be 8 g++be 4 n++be 4 t.length++t
def allL(g n:Nat)(t:List Nat):List Nat:=bodyL g n t++Sm.digL (bodyL g n t)
def laidL(g n:Nat)(t:List Nat):List Nat :=
 (allL g n t).take (min 63 (allL g n t).length)++rep (63-min 63 (allL g n t).length)++[76]++(allL g n t).drop (min 63 (allL g n t).length)
def takenL(x:List Nat):Option (Nat×Nat×List Nat) :=
 if x.length<64∨gi x 0≠76∨gi x 63≠76 then none
 else if val ((x.drop 1).take 8)<1∨1099511627776<val ((x.drop 1).take 8)∨65535<val ((x.drop 13).take 4)then none
 else if x.length<secs (val ((x.drop 13).take 4))*64 then none
 else if ((x.take 63++(x.drop 64).take (secs (val ((x.drop 13).take 4))*64-64)).drop (17+val ((x.drop 13).take 4))).take 32 =
   Sm.digL ((x.take 63++(x.drop 64).take (secs (val ((x.drop 13).take 4))*64-64)).take (17+val ((x.drop 13).take 4)))
  then some (val ((x.drop 1).take 8),val ((x.drop 9).take 4),((x.take 63++(x.drop 64).take (secs (val ((x.drop 13).take 4))*64-64)).drop 17).take (val ((x.drop 13).take 4)))
 else none
structure Hf where
 first:Nat
 size:Nat
 gen:Nat
 used:Nat
 texts:List (List Nat)
def Hf.other(h:Hf):Hf:=⟨h.size-h.first,h.size,0,0,[]⟩
def Hf.with(h:Hf)(t:List Nat):Hf:={ h with used:=h.used+secs t.length,texts:=h.texts++[t] }
def Hf.room(h:Hf):Int:=min 65535 (((h.size:Int)-h.used)*64-50)
def Hf.next(h:Hf)(x:List Nat):Option Hf :=
 match takenL (x.drop (h.used*64))with
 |none=>none
 |some (g,n,t)=>if n≠h.texts.length∨h.gen≠0∧g≠h.gen then none else some ({ h with gen:=g }.with t)
def Hf.tell(x:List Nat):Nat→Hf→Hf
 |0,h=>h
 |f+1,h=>match h.next x with | none=>h | some k=>Hf.tell x f k
def Hf.read(h:Hf)(M:Dk):List Nat:=(List.range h.size).flatMap fun i=>(M.read ((h.first+i:Nat):Int)).1
def Hf.told(h:Hf)(M:Dk):Hf:=h.tell (h.read M) (h.size+1)
inductive Stp where
 |w (a:Nat) (s:List Nat)
 |f
def Stp.run(M:Dk):Stp→Dk×Nat
 | .w a s=>M.write (a:Int) s
 | .f=>M.flush
def runS(M:Dk):List Stp→Dk×Bool
 | []=>(M,true)
 |s :: r=>if (s.run M).2=0 then runS (s.run M).1 r else ((s.run M).1,false)
def chunk(y:List Nat)(i:Nat):List Nat:=(y.drop (i*64)).take 64
def Hf.down(h:Hf)(y:List Nat):Nat→List Stp
 |0=>[.f,.w (h.first+h.used) (chunk y 0)]
 |i+1=>.w (h.first+(h.used+(i+1))) (chunk y (i+1)) :: h.down y i
def Hf.laying(h:Hf)(t:List Nat):List Stp :=
 h.down (laidL h.gen h.texts.length t) (((laidL h.gen h.texts.length t).length-1)/64)++[.f]
def Hf.ending(h:Hf):List Stp:=if h.used=h.size then []else [.w (h.first+h.used) []]
structure Jn where
 now:Hf
 off:Bool
def Jn.turn(J:Jn)(M:Dk)(next:Hf)(l:List Stp):Jn×Dk×Nat :=
 if (runS M l).2 then (⟨next,J.off⟩,(runS M l).1,0)else (⟨⟨0,next.size,0,0,[]⟩,true⟩,(runS M l).1,7)
def Jn.append(J:Jn)(M:Dk)(s:List Nat):Jn×Dk×Nat :=
 if J.off then (J,M,7)
 else if J.now.room<s.length then (J,M,6)
 else J.turn M ({ J.now with gen:=max J.now.gen 1 }.with s) (({ J.now with gen:=max J.now.gen 1 }.with s).ending++({ J.now with gen:=max J.now.gen 1 }:Hf).laying s)
def Hf.lays(h:Hf):List (List Nat)→Option (Hf×List (List Stp))
 | []=>some (h,[])
 |t :: r=>if h.room<t.length then none else match (h.with t).lays r with | none=>none | some (k,ls)=>some (k,h.laying t :: ls)
def someL(l:List (List Nat)):List (List Nat):=if l=[]then [[]]else l
def Jn.anew(J:Jn)(M:Dk)(l:List (List Nat)):Jn×Dk×Nat :=
 if J.off then (J,M,7)
 else if J.now.gen=1099511627776 then (J,M,1)
 else match ({ J.now.other with gen:=J.now.gen+1 }:Hf).lays (someL l)with
  |none=>(J,M,6)
  |some (k,ls)=>J.turn M k ([.w (J.now.other.first) [],.f]++k.ending++ls.reverse.flatten)
def openJ(M:Dk):Option Jn×Nat :=
 if M.n<8∨M.n%2≠0 then (none,1)
 else if M.off then (none,7)
 else if ((⟨0,M.n/2,0,0,[]⟩:Hf).told M).gen<((⟨0,M.n/2,0,0,[]⟩:Hf).other.told M).gen then (some ⟨(⟨0,M.n/2,0,0,[]⟩:Hf).other.told M,false⟩,0)
 else (some ⟨(⟨0,M.n/2,0,0,[]⟩:Hf).told M,false⟩,0)
end Go.Proofs.YtlogjpmdfimgdaaGreatDoor.Jf
namespace Go.Proofs.YtlogjpmdfimgdaaGreatDoor.Jf
open Go.RowKit Go.Own.Jf
theorem be_length(k n:Nat):(be k n).length=k:=by simp[be]
theorem be_B8(k n:Nat):B8 (be k n):=fun x hx=>by
 simp only[be,List.mem_map]at hx
 obtain⟨i,_,rfl⟩:=hx
 exact Nat.mod_lt _ (by decide)
theorem val_snoc(s:List Nat)(b:Nat):val (s++[b])=val s*256+b:=by simp[val]
theorem be_succ(k n:Nat):be (k+1) n=be k (n/256)++[n%256]:=by
 unfold be
 rw[List.range_succ,List.map_append]
 congr 1
 ·apply List.map_congr_left
  intro i hi
  have hi':=List.mem_range.1 hi
  rw[show 8*(k+1-1-i)=8+8*(k-1-i) by omega,Nat.pow_add,←Nat.div_div_eq_div_mul]
 ·simp
theorem val_be:∀(k n:Nat),n<256 ^ k→val (be k n)=n
 |0,n,h=>by simp at h;subst h;rfl
 |k+1,n,h=>by
  rw[be_succ,val_snoc,val_be k (n/256) (by rw[Nat.pow_succ]at h;omega)]
  omega
theorem secs_pos(k:Nat):1≤secs k:=by unfold secs;omega
theorem secs_room(k:Nat):k+50≤secs k*64:=by unfold secs;omega
theorem secs_small{k:Nat}(h:k≤14):secs k=1:=by unfold secs;omega
theorem body_length(g n:Nat)(t:List Nat):(bodyL g n t).length=17+t.length:=by simp[bodyL,be_length];omega
theorem all_length(g n:Nat)(t:List Nat):(allL g n t).length=49+t.length:=by rw[allL,List.length_append,body_length,Sm.digL_length];omega
theorem laid_length(g n:Nat)(t:List Nat):(laidL g n t).length=max 64 (50+t.length):=by
 simp[laidL,all_length,rep_length];omega
theorem laid_le(g n:Nat)(t:List Nat):(laidL g n t).length≤secs t.length*64:=by
 have h1:=secs_room t.length
 have h2:=secs_pos t.length
 rw[laid_length];omega
def recL(g n:Nat)(t:List Nat):List Nat:=laidL g n t++rep (secs t.length*64-(laidL g n t).length)
theorem rec_length(g n:Nat)(t:List Nat):(recL g n t).length=secs t.length*64:=by
 have:=laid_le g n t
 rw[recL,List.length_append,rep_length];omega
def midL(x:List Nat)(e:Nat):List Nat:=x.take 63++(x.drop 64).take (e-64)
theorem rec_mid(g n:Nat)(t r:List Nat):∃z,midL (recL g n t++r) (secs t.length*64)=allL g n t++z:=by
 have hl:=all_length g n t
 obtain⟨A,hA⟩:∃A,allL g n t=A:=⟨_,rfl⟩
 rw[hA]at hl
 unfold midL recL laidL
 rw[hA]
 by_cases h:t.length≤14
 ·rw[secs_small h,Nat.min_eq_right (by omega),List.take_of_length_le (Nat.le_refl _)]
  refine⟨rep (63-A.length),?_⟩
  simp only[List.append_assoc,Nat.one_mul,Nat.sub_self,List.take_zero,List.append_nil]
  rw[←List.append_assoc,List.take_left' (by simp[rep_length];omega)]
 ·rw[Nat.min_eq_left (by omega)]
  have h1:(A.take 63).length=63:=by rw[List.length_take];omega
  have h2:=secs_room t.length
  have e0:rep (63-63)=[]:=rfl
  simp only[e0,List.append_nil,List.append_assoc]
  rw[List.take_left' h1]
  have e1:(A.take 63++([76]++(A.drop 63++(rep (secs t.length*64-(A.take 63++([76]++A.drop 63)).length)++r)))).drop 64=A.drop 63++(rep (secs t.length*64-(A.take 63++([76]++A.drop 63)).length)++r):=by
   rw[←List.append_assoc,List.drop_left' (by rw[List.length_append,h1];rfl)]
  rw[e1,List.take_append,List.take_of_length_le (l:=A.drop 63) (by rw[List.length_drop];omega)]
  exact⟨_,by rw[←List.append_assoc,List.take_append_drop]⟩
theorem rec_head(g n:Nat)(t r:List Nat):(recL g n t++r).take 49=(allL g n t).take 49:=by
 have hl:=all_length g n t
 unfold recL laidL
 obtain⟨A,hA⟩:∃A,allL g n t=A:=⟨_,rfl⟩
 rw[hA]at hl ⊢
 simp only[List.append_assoc]
 rw[List.take_append_of_le_length (by rw[List.length_take];omega),List.take_take]
 congr 1;omega
theorem gi_take{x:List Nat}{i n:Nat}(h:i<n):gi (x.take n) i=gi x i:=by
 simp[gi,List.getD,h]
theorem rec_mark(g n:Nat)(t r:List Nat):gi (recL g n t++r) 63=76:=by
 have hl:=all_length g n t
 unfold recL laidL
 obtain⟨A,hA⟩:∃A,allL g n t=A:=⟨_,rfl⟩
 rw[hA]at hl ⊢
 have h1:(A.take (min 63 A.length)++rep (63-min 63 A.length)).length=63:=by rw[List.length_append,List.length_take,rep_length];omega
 simp only[List.append_assoc]
 rw[←List.append_assoc]
 unfold gi
 rw[List.getD_eq_getElem?_getD,List.getElem?_append_right (by omega),h1]
 rfl
theorem drop_take_of{x A:List Nat}{n a k:Nat}(h:x.take n=A.take n)(hk:a+k≤n):(x.drop a).take k=(A.drop a).take k:=by
 have e:∀z:List Nat,(z.drop a).take k=((z.take n).drop a).take k:=fun z=>by
  rw[List.drop_take,List.take_take,Nat.min_eq_left (by omega)]
 rw[e x,e A,h]
theorem all_eq(g n:Nat)(t:List Nat):allL g n t=76 :: (be 8 g++(be 4 n++(be 4 t.length++(t++Sm.digL (bodyL g n t))))):=by
 unfold allL
 conv=>lhs;arg 1;unfold bodyL
 simp only[List.append_assoc,List.cons_append,List.nil_append]
theorem all_gen(g n:Nat)(t:List Nat):((allL g n t).drop 1).take 8=be 8 g:=by
 rw[all_eq,List.drop_succ_cons,List.drop_zero,List.take_left' (be_length 8 g)]
theorem all_num(g n:Nat)(t:List Nat):((allL g n t).drop 9).take 4=be 4 n:=by
 rw[all_eq,List.drop_succ_cons,List.drop_left' (be_length 8 g),List.take_left' (be_length 4 n)]
theorem all_len(g n:Nat)(t:List Nat):((allL g n t).drop 13).take 4=be 4 t.length:=by
 rw[all_eq,List.drop_succ_cons,←List.append_assoc (be 8 g),List.drop_left' (by rw[List.length_append,be_length,be_length]),List.take_left' (be_length 4 _)]
theorem all_text(g n:Nat)(t z:List Nat):((allL g n t++z).drop 17).take t.length=t:=by
 unfold allL bodyL
 have e:([76]++be 8 g++be 4 n++be 4 t.length).length=17:=by simp[be_length]
 rw[List.append_assoc,List.append_assoc ([76]++be 8 g++be 4 n++be 4 t.length),List.drop_left' e,List.take_left' rfl]
theorem all_dig(g n:Nat)(t z:List Nat):((allL g n t++z).drop (17+t.length)).take 32=Sm.digL ((allL g n t++z).take (17+t.length)):=by
 unfold allL
 rw[List.append_assoc,List.drop_left' (body_length g n t),List.take_left' (body_length g n t),List.take_left' (Sm.digL_length _)]
theorem rec_taken(g n:Nat)(t r:List Nat)(h1:1≤g)(h2:g≤1099511627776)(hn:n<4294967296)(ht:t.length≤65535):takenL (recL g n t++r)=some (g,n,t):=by
 have hh:=rec_head g n t r
 have hm:=rec_mark g n t r
 obtain⟨z,hz⟩:=rec_mid g n t r
 have hlen:secs t.length*64≤(recL g n t++r).length:=by rw[List.length_append,rec_length];omega
 have hp:=secs_pos t.length
 obtain⟨x,hx⟩:∃x,recL g n t++r=x:=⟨_,rfl⟩
 rw[hx]at hh hm hz hlen ⊢
 have e1:val ((x.drop 1).take 8)=g:=by rw[drop_take_of hh (by decide),all_gen,val_be];omega
 have e2:val ((x.drop 9).take 4)=n:=by rw[drop_take_of hh (by decide),all_num,val_be];omega
 have e3:val ((x.drop 13).take 4)=t.length:=by rw[drop_take_of hh (by decide),all_len,val_be];omega
 have e0:gi x 0=76:=by
  rw[←gi_take (n:=49) (by decide),hh,gi_take (by decide)];rfl
 unfold takenL
 rw[e1,e2,e3,if_neg (by omega),if_neg (by omega),if_neg (by omega)]
 have hz':x.take 63++(x.drop 64).take (secs t.length*64-64)=allL g n t++z:=hz
 rw[hz',if_pos (all_dig g n t z),all_text]
theorem taken_some{x:List Nat}{g n:Nat}{t:List Nat}(h:takenL x=some (g,n,t)) :
  64≤x.length∧gi x 0=76∧gi x 63=76∧val ((x.drop 1).take 8)=g∧val ((x.drop 9).take 4)=n∧val ((x.drop 13).take 4)=t.length∧1≤g∧g≤1099511627776∧t.length≤65535∧secs t.length*64≤x.length ∧
  ((midL x (secs t.length*64)).drop (17+t.length)).take 32=Sm.digL ((midL x (secs t.length*64)).take (17+t.length))∧((midL x (secs t.length*64)).drop 17).take t.length=t:=by
 unfold takenL at h
 split at h
 ·cases h
 ·rename_i c1
  split at h
  ·cases h
  ·rename_i c2
   split at h
   ·cases h
   ·rename_i c3
    split at h
    ·rename_i c4
     obtain⟨k,hk⟩:∃k,val ((x.drop 13).take 4)=k:=⟨_,rfl⟩
     rw[hk]at h c2 c3 c4
     simp only[Option.some.injEq,Prod.mk.injEq]at h
     obtain⟨hg,hn,ht⟩:=h
     have hr:=secs_room k
     have hp:=secs_pos k
     have hl:t.length=k:=by
      rw[←ht]
      simp only[List.length_take,List.length_drop,List.length_append]
      omega
     rw[hl,hk]
     refine⟨by omega,by omega,by omega,hg,hn,rfl,by omega,by omega,by omega,by omega,c4,?_⟩
     exact ht
    ·cases h
theorem mid_of{x y:List Nat}{e:Nat}(h64:64≤e)(h:y.take e=x.take e):midL y e=midL x e:=by
 unfold midL
 have e1:y.take 63=x.take 63:=by
  have:=congrArg (List.take 63) h
  rwa [List.take_take,List.take_take,Nat.min_eq_left (by omega)]at this
 rw[e1,drop_take_of h (a:=64) (k:=e-64) (by omega)]
theorem taken_local{x y:List Nat}{g n:Nat}{t:List Nat}(h:takenL x=some (g,n,t))(hy:y.take (secs t.length*64)=x.take (secs t.length*64)):takenL y=some (g,n,t):=by
 obtain⟨a1,a2,a3,a4,a5,a6,a7,a8,a9,a10,a11,a12⟩:=taken_some h
 have hp:=secs_pos t.length
 have hl:secs t.length*64≤y.length:=by
  have:=congrArg List.length hy
  rw[List.length_take,List.length_take]at this
  omega
 have hg:∀i,i<secs t.length*64→gi y i=gi x i:=fun i hi=>by rw[←gi_take hi,hy,gi_take hi]
 have e1:val ((y.drop 1).take 8)=g:=by rw[drop_take_of hy (by omega),a4]
 have e2:val ((y.drop 9).take 4)=n:=by rw[drop_take_of hy (by omega),a5]
 have e3:val ((y.drop 13).take 4)=t.length:=by rw[drop_take_of hy (by omega),a6]
 have e4:midL y (secs t.length*64)=midL x (secs t.length*64):=mid_of (by omega) hy
 unfold takenL
 rw[e1,e2,e3,if_neg (by rw[hg 0 (by omega),hg 63 (by omega)];omega),if_neg (by omega),if_neg (by omega)]
 have e4':y.take 63++(y.drop 64).take (secs t.length*64-64)=midL x (secs t.length*64):=e4
 rw[e4',if_pos a11,a12]
theorem taken_empty{x:List Nat}(h:gi x 0≠76):takenL x=none:=by
 unfold takenL;rw[if_pos (by omega)]
theorem taken_short{x:List Nat}(h:x.length<64):takenL x=none:=by
 unfold takenL;rw[if_pos (by omega)]
end Go.Proofs.YtlogjpmdfimgdaaGreatDoor.Jf

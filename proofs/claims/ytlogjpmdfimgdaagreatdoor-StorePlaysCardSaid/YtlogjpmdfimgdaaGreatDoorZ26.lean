/- What a half tells behind one record more, and behind records that are laid anew. No condition. | A journal on a disk whose power is on: opened, one text more, made anew; opened again it is the same. No condition. | Between two texts of a journal that is made anew: what lies in memory; one text more. No condition. | slices.Reverse over a row of rows, in place: by contract. No condition but the size. -/
import Derived.Test.YtlogjpmdfimgdaaGreatDoorZ25
import Derived.Test.YtlogjpmdfimgdaaGreatDoorZ24
namespace Go.Proofs.YtlogjpmdfimgdaaGreatDoor.Jf
open Go.RowKit Go.Own.Jf Go.Own.Fr
def toldB(x:List Nat)(F S:Nat):Hf:=Hf.tell (part x F S) (S+1) ⟨F,S,0,0,[]⟩
theorem part_succ(x:List Nat)(F S:Nat):part x F (S+1)=part x F S++sec x (F+S):=by
 unfold part sec
 rw[Nat.succ_mul,List.take_add,List.drop_drop,←Nat.add_mul]
theorem read_part{M:Dk}(h:Live M)(F:Nat):∀S,F+S≤M.n→((List.range S).flatMap fun i=>(M.read ((F+i:Nat):Int)).1)=part M.seen F S
 |0,_=>by simp[part]
 |S+1,hS=>by
  rw[List.range_succ,List.flatMap_append,read_part h F S (by omega),part_succ]
  congr 1
  have hr:refE M.off M.n ((F+S:Nat):Int)=0:=by unfold refE;rw[h.on,if_neg (by simp),if_neg (by omega)]
  show [S].flatMap _=_
  rw[List.flatMap_cons,List.flatMap_nil,List.append_nil]
  unfold Dk.read
  rw[if_pos hr,Int.toNat_natCast]
theorem told_eq{M:Dk}(h:Live M)(F S:Nat)(hS:F+S≤M.n):(⟨F,S,0,0,[]⟩:Hf).told M=toldB M.seen F S:=by
 unfold Hf.told toldB
 have:(⟨F,S,0,0,[]⟩:Hf).read M=part M.seen F S:=read_part h F S hS
 rw[this]
structure Good(k:Hf):Prop where
 used:k.used=sumS k.texts
 fits:k.used≤k.size
 texts:∀t∈k.texts,t.length≤65535∧B8 t
 gen:k.gen≤1099511627776
 zero:k.gen=0↔k.texts=[]
theorem sumS_ge:∀l:List (List Nat),l.length≤sumS l
 | []=>Nat.le_refl _
 |t :: l=>by
  have:=sumS_ge l
  have h2:=secs_pos t.length
  simp only[sumS,List.map_cons,List.sum_cons,List.length_cons]at this ⊢
  omega
theorem next_good{x:List Nat}{h k:Hf}(hx:x.length=h.size*64)(hb:B8 x)(hg:Good h)(e:h.next x=some k):Good k:=by
 obtain⟨g,n,t,ht,hn,hg2,rfl⟩:=next_some e
 have h1:=taken_fits hx ht
 have h2:=taken_some ht
 have h3:=taken_B8 (hb.drop _) ht
 refine⟨?_,h1,fun s hs=>?_,h2.2.2.2.2.2.2.2.1,?_⟩
 ·show h.used+secs t.length=sumS (h.texts++[t])
  rw[sumS_snoc,hg.used]
 ·rcases List.mem_append.1 (show s∈h.texts++[t]from hs)with hs | hs
  ·exact hg.texts s hs
  ·obtain rfl:=List.mem_singleton.1 hs
   exact⟨h2.2.2.2.2.2.2.2.2.1,h3⟩
 ·show g=0↔h.texts++[t]=[]
  have:=h2.2.2.2.2.2.2.1
  constructor
  ·intro e;omega
  ·intro e;simp at e
theorem Tw.good{x:List Nat}{h k:Hf}(t:Tw x h k)(hx:x.length=h.size*64)(hb:B8 x)(hg:Good h):Good k:=by
 induction t with
 |refl=>exact hg
 |step e _ ih=>exact ih (by rw[(next_used e).2.2.2];exact hx) (next_good hx hb hg e)
theorem good0(F S:Nat):Good ⟨F,S,0,0,[]⟩:=⟨rfl,Nat.zero_le _,fun t ht=>(List.not_mem_nil ht).elim,Nat.zero_le _,by simp⟩
theorem toldB_ok{x:List Nat}{F S n:Nat}(hx:x.length=n*64)(hb:B8 x)(hS:F+S≤n) :
  Good (toldB x F S)∧(toldB x F S).first=F∧(toldB x F S).size=S∧Tw (part x F S) ⟨F,S,0,0,[]⟩ (toldB x F S)∧(toldB x F S).next (part x F S)=none:=by
 have hl:=part_length hx hS
 have ht:Tw (part x F S) ⟨F,S,0,0,[]⟩ (toldB x F S):=tell_tw _ _ _
 have hp:B8 (part x F S):=(hb.drop _).take _
 exact⟨ht.good hl hp (good0 F S),ht.used.2.2.1,ht.used.2.2.2,ht,tell_end hl _ _ (by show S<0+(S+1);omega)⟩
theorem told_of{x:List Nat}{F S:Nat}{k:Hf}(ht:Tw (part x F S) ⟨F,S,0,0,[]⟩ k)(hn:k.next (part x F S)=none)(hk:k.texts.length≤S):toldB x F S=k :=
 ht.tell hn _ (by show _≤S+1+0;omega)
theorem next_empty{h:Hf}{y:List Nat}{r:List Nat}(e:y.drop (h.used*64)=rep 64++r):h.next y=none :=
 next_of_none (by rw[e];exact taken_empty (by show gi (rep 64++r) 0≠76;simp[gi,rep,List.replicate_succ]))
theorem next_short{h:Hf}{y:List Nat}(e:y.drop (h.used*64)=[]):h.next y=none :=
 next_of_none (by rw[e];exact taken_short (by decide))
theorem ending_next{x:List Nat}{F S n:Nat}(hx:x.length=n*64)(hS:F+S≤n){k:Hf}(hF:k.first=F)(hk:k.size=S)(hu:k.used≤S){y:List Nat}
  (hy:y.drop (k.used*64)=(part (seenS x k.ending) F S).drop (k.used*64)):k.next y=none:=by
 rw[ending_seen]at hy
 by_cases h:k.used=k.size
 ·rw[if_pos h]at hy
  refine next_short ?_
  rw[hy]
  exact List.drop_eq_nil_of_le (by rw[part_length hx hS,h,hk];exact Nat.le_refl _)
 ·rw[if_neg h,hF]at hy
  have hl:=part_length hx hS
  rw[part_in hx (m:=1) (rep_length 64) (by omega) hS,spl_at (by rw[hl];exact Nat.mul_le_mul_right 64 hu)]at hy
  exact next_empty hy
theorem ending_before{x:List Nat}{F S n:Nat}(hx:x.length=n*64)(hS:F+S≤n){k:Hf}(hF:k.first=F)(hk:k.size=S)(hu:k.used≤S){p:Nat}(hp:p≤k.used) :
  (part (seenS x k.ending) F S).take (p*64)=(part x F S).take (p*64):=by
 rw[ending_seen]
 by_cases h:k.used=k.size
 ·rw[if_pos h]
 ·have hl:=part_length hx hS
  rw[if_neg h,hF,part_in hx (m:=1) (rep_length 64) (by omega) hS,spl_take (Nat.mul_le_mul_right 64 hp) (by rw[hl];exact Nat.mul_le_mul_right 64 hu)]
theorem append_told{x:List Nat}{F S n:Nat}(hx:x.length=n*64)(hb:B8 x)(hS:F+S≤n)(hS2:S≤4096)(t:List Nat)(ht:t.length≤65535)(hfit:(toldB x F S).used+secs t.length≤S) :
  toldB (seenS x ((({ toldB x F S with gen:=max (toldB x F S).gen 1 }:Hf).with t).ending++({ toldB x F S with gen:=max (toldB x F S).gen 1 }:Hf).laying t)) F S=({ toldB x F S with gen:=max (toldB x F S).gen 1 }:Hf).with t:=by
 obtain⟨hg,hF,hz,htw,hnx⟩:=toldB_ok hx hb hS
 generalize toldB x F S=h at *
 obtain⟨G,hG⟩:∃G,max h.gen 1=G:=⟨_,rfl⟩
 have hG1:1≤G:=by omega
 have hG2:G≤1099511627776:=by have:=hg.gen;omega
 rw[hG]
 obtain⟨k,hk⟩:∃k,({ h with gen:=G }:Hf).with t=k:=⟨_,rfl⟩
 have hkF:k.first=F:=by rw[←hk];exact hF
 have hkz:k.size=S:=by rw[←hk];exact hz
 have hku:k.used=h.used+secs t.length:=by rw[←hk];rfl
 have hkt:k.texts.length=h.texts.length+1:=by rw[←hk];show (h.texts++[t]).length=_;simp
 have hnum:=sumS_ge h.texts
 have hsu:=hg.used
 have hsp:=secs_pos t.length
 rw[hk,seenS_append]
 have hx1:=seenS_len (lo:=F) (hi:=n) (Nat.le_refl _) k.ending x hx hb (fun s hs=>by have:=ending_in k (n:=n) (by omega) (by omega) s hs;rw[hkF]at this;exact this)
 have hb1:=ending_before hx hS hkF hkz (by omega) (p:=h.used) (by omega)
 have hn1:=fun y=>ending_next hx hS hkF hkz (by omega) (y:=y)
 generalize seenS x k.ending=x1 at *
 have hrl:=rec_length G h.texts.length t
 have hpl:=part_length hx1.1 hS
 have hy:part (seenS x1 (({ h with gen:=G }:Hf).laying t)) F S=spl (part x1 F S) (h.used*64) (recL G h.texts.length t):=by
  rw[laying_seen _ _ _ (by show (h.first+h.used+secs t.length)*64≤_;rw[hx1.1,hF];exact Nat.mul_le_mul_right 64 (by omega))]
  show part (spl x1 ((h.first+h.used)*64) (recL G h.texts.length t)) F S=_
  rw[hF,part_in hx1.1 hrl (by omega) hS]
 generalize seenS x1 (({ h with gen:=G }:Hf).laying t)=x2 at hy ⊢
 have hle:h.used*64≤(part x1 F S).length:=by rw[hpl];exact Nat.mul_le_mul_right 64 (by omega)
 have hd:(part x2 F S).drop (h.used*64)=recL G h.texts.length t++(part x1 F S).drop (h.used*64+(recL G h.texts.length t).length):=by rw[hy,spl_at hle]
 have htw2:Tw (part x2 F S) ⟨F,S,0,0,[]⟩ h:=htw.local (by rw[hy,spl_take (Nat.le_refl _) hle,hb1])
 have hnk:h.next (part x2 F S)=some k:=by
  rw[←hk]
  exact next_make (by rw[hd];exact rec_taken G h.texts.length t _ hG1 hG2 (by omega) ht) rfl (by omega)
 refine told_of (htw2.trans (.step hnk (.refl k))) (hn1 _ ?_) (by omega)
 rw[hy,hku,spl_behind (by rw[hrl,Nat.add_mul];exact Nat.le_refl _) hle]
theorem recs_tw{y r:List Nat}{g:Nat}(hg1:1≤g)(hg2:g≤1099511627776):∀(l:List (List Nat)) (h k:Hf) (ls:List (List Stp)),h.gen=g→h.lays l=some (k,ls)→h.texts.length+l.length≤100000→y.drop (h.used*64)=recsL g h.texts.length l++r→Tw y h k
 | [],h,k,ls,_,e,_,_=>by
  simp only[Hf.lays,Option.some.injEq,Prod.mk.injEq]at e
  obtain⟨rfl,rfl⟩:=e
  exact .refl _
 |t :: l,h,k,ls,hg,e,hn,hy=>by
  rw[Hf.lays]at e
  by_cases hr:h.room<(t.length:Int)
  ·rw[if_pos hr]at e;cases e
  ·rw[if_neg hr]at e
   cases hc:(h.with t).lays l with
   |none=>rw[hc]at e;cases e
   |some p =>
    obtain⟨k',ls'⟩:=p
    rw[hc]at e
    simp only[Option.some.injEq,Prod.mk.injEq]at e
    obtain⟨rfl,rfl⟩:=e
    have h1:=room_ok hr
    rw[List.length_cons]at hn
    rw[recsL,List.append_assoc]at hy
    have hnx:h.next y=some (h.with t):=by
     have:=next_make (h:=h) (x:=y) (by rw[hy];exact rec_taken g h.texts.length t _ hg1 hg2 (by omega) h1.1) rfl (.inr hg.symm)
     rw[this,←hg]
    have ht:(h.with t).texts.length=h.texts.length+1:=by show (h.texts++[t]).length=_;simp
    refine .step hnx (recs_tw (r:=r) hg1 hg2 l (h.with t) k' ls' hg hc (by omega) ?_)
    rw[ht]
    show y.drop ((h.used+secs t.length)*64)=_
    rw[Nat.add_mul,←List.drop_drop,hy,List.drop_left' (rec_length _ _ _)]
theorem anew_told{x:List Nat}{F S n g:Nat}(hx:x.length=n*64)(hb:B8 x)(hS:F+S≤n)(hS2:S≤4096)(hg1:1≤g)(hg2:g≤1099511627776)(l:List (List Nat))(hl:l≠[])(hlb:∀t∈l,B8 t)(k:Hf)(ls:List (List Stp))(e:(⟨F,S,g,0,[]⟩:Hf).lays l=some (k,ls)) :
  toldB (seenS x ([.w F [],.f]++k.ending++ls.reverse.flatten)) F S=k:=by
 have ho:=lays_ok _ _ _ _ e
 have hkF:k.first=F:=ho.first
 have hkz:k.size=S:=ho.size
 have hku:k.used=0+sumS l:=lays_used _ _ _ _ e
 have hkS:k.used≤S:=by have:=ho.fits (Nat.zero_le _);rw[hkz]at this;exact this
 have hkt:k.texts=l:=ho.texts
 have hll:=sumS_ge l
 rw[seenS_append,seenS_append,seenS_w,seenS_f,seenS_nil]
 have hsp:S≠0:=by
  intro h0
  have:l.length=0:=by omega
  exact hl (List.length_eq_zero_iff.1 this)
 have hx0:(spl x (F*64) (filL [])).length=n*64:=put_length hx (by omega) (by rw[filL_length (by simp)];omega)
 have hb0:B8 (spl x (F*64) (filL [])):=hb.spl (filL_B8 fun x hx=>by cases hx) _
 generalize spl x (F*64) (filL [])=x0 at *
 have hx1:=seenS_len (lo:=F) (hi:=n) (Nat.le_refl _) k.ending x0 hx0 hb0 (fun s hs=>by have:=ending_in k (n:=n) (by omega) (by omega) s hs;rw[hkF]at this;exact this)
 have hn1:=fun y=>ending_next hx0 hS hkF hkz (by omega) (y:=y)
 generalize seenS x0 k.ending=x1 at *
 have hrl:=recsL_length g l 0
 have hpl:=part_length hx1.1 hS
 have hsee:=lays_seen l ⟨F,S,g,0,[]⟩ k ls x1 e (by show (F+k.used)*64≤_;rw[hx1.1];exact Nat.mul_le_mul_right 64 (by omega))
 have hy:part (seenS x1 ls.reverse.flatten) F S=spl (part x1 F S) 0 (recsL g 0 l):=by
  rw[hsee]
  show part (spl x1 ((F+0)*64) (recsL g 0 l)) F S=_
  rw[part_in hx1.1 hrl (by omega) hS,Nat.zero_mul]
 generalize seenS x1 ls.reverse.flatten=x2 at hy ⊢
 have hd:part x2 F S=recsL g 0 l++(part x1 F S).drop (recsL g 0 l).length:=by
  rw[hy];unfold spl;simp
 have hfirst:∃t r,l=t :: r:=by
  cases l with
  |nil=>exact absurd rfl hl
  |cons t r=>exact⟨t,r,rfl⟩
 obtain⟨t,r,rfl⟩:=hfirst
 have htw:Tw (part x2 F S) ⟨F,S,0,0,[]⟩ k:=by
  have e2:=e
  rw[Hf.lays]at e2
  by_cases hr:(⟨F,S,g,0,[]⟩:Hf).room<(t.length:Int)
  ·rw[if_pos hr]at e2;cases e2
  ·rw[if_neg hr]at e2
   cases hc:((⟨F,S,g,0,[]⟩:Hf).with t).lays r with
   |none=>rw[hc]at e2;cases e2
   |some p =>
    obtain⟨k',ls'⟩:=p
    rw[hc]at e2
    simp only[Option.some.injEq,Prod.mk.injEq]at e2
    obtain⟨rfl,-⟩:=e2
    have h1:=room_ok hr
    rw[recsL,List.append_assoc]at hd
    have hnx:(⟨F,S,0,0,[]⟩:Hf).next (part x2 F S)=some ((⟨F,S,g,0,[]⟩:Hf).with t) :=
     next_make (h:=⟨F,S,0,0,[]⟩) (x:=part x2 F S) (g:=g) (n:=0) (t:=t) (by show takenL ((part x2 F S).drop (0*64))=_;rw[Nat.zero_mul,List.drop_zero,hd];exact rec_taken g 0 t _ hg1 hg2 (by omega) h1.1) rfl (.inl rfl)
    refine .step hnx (recs_tw hg1 hg2 r _ k' ls' rfl hc (by show 1+r.length≤_;rw[List.length_cons]at hll;omega) (r:=(part x1 F S).drop (recL g 0 t++recsL g 1 r).length) ?_)
    show (part x2 F S).drop ((0+secs t.length)*64)=_
    rw[Nat.zero_add,hd,List.drop_left' (rec_length _ _ _)]
    rfl
 refine told_of htw (hn1 _ ?_) (by rw[hkt];omega)
 rw[hd,hku,Nat.zero_add,←hrl,List.drop_left' rfl]
end Go.Proofs.YtlogjpmdfimgdaaGreatDoor.Jf
namespace Go.Proofs.YtlogjpmdfimgdaaGreatDoor.Jf
open Go.RowKit Go.Own.Jf Go.Own.Fr
structure Inv(J:Jn)(M:Dk):Prop where
 live:Live M
 off:J.off=false
 half:M.n=J.now.size+J.now.size
 big:8≤M.n
 first:J.now.first=0∨J.now.first=J.now.size
 now:toldB M.seen J.now.first J.now.size=J.now
 less:J.now.first=0→(toldB M.seen J.now.size J.now.size).gen≤J.now.gen
 more:J.now.first=J.now.size→(toldB M.seen 0 J.now.size).gen<J.now.gen
theorem Inv.fs{J:Jn}{M:Dk}(h:Inv J M):J.now.first+J.now.size≤M.n:=by
 have h1:=h.half
 have h2:=h.first
 omega
theorem Inv.small{J:Jn}{M:Dk}(h:Inv J M):4≤J.now.size∧J.now.size≤2048:=by
 have h1:=h.half
 have h2:=h.big
 have h3:=h.live.ok.n2
 omega
theorem Inv.good{J:Jn}{M:Dk}(h:Inv J M):Good J.now:=by
 have:=(toldB_ok h.live.ok.seenL h.live.ok.seenB h.fs).1
 rwa [h.now]at this
theorem open_live{M:Dk}(h:Live M)(h8:8≤M.n)(h2:M.n%2=0):openJ M=(if (toldB M.seen 0 (M.n/2)).gen<(toldB M.seen (M.n/2) (M.n/2)).gen then some ⟨toldB M.seen (M.n/2) (M.n/2),false⟩else some ⟨toldB M.seen 0 (M.n/2),false⟩,0):=by
 have e1:(⟨0,M.n/2,0,0,[]⟩:Hf).told M=toldB M.seen 0 (M.n/2):=told_eq h _ _ (by omega)
 have e2:(⟨0,M.n/2,0,0,[]⟩:Hf).other.told M=toldB M.seen (M.n/2) (M.n/2):=told_eq h _ _ (by show M.n/2-0+M.n/2≤M.n;omega)
 unfold openJ
 rw[if_neg (by omega),if_neg (by rw[h.on];simp),e1,e2]
 split <;> rfl
theorem open_inv{M:Dk}(h:Live M)(h8:8≤M.n)(h2:M.n%2=0):∃J,openJ M=(some J,0)∧Inv J M:=by
 rw[open_live h h8 h2]
 have a:=toldB_ok h.ok.seenL h.ok.seenB (F:=0) (S:=M.n/2) (n:=M.n) (by omega)
 have b:=toldB_ok h.ok.seenL h.ok.seenB (F:=M.n/2) (S:=M.n/2) (n:=M.n) (by omega)
 by_cases hc:(toldB M.seen 0 (M.n/2)).gen<(toldB M.seen (M.n/2) (M.n/2)).gen
 ·rw[if_pos hc]
  refine⟨_,rfl,h,rfl,?_,h8,.inr ?_,?_,fun h0=>?_,fun _=>?_⟩
  ·show M.n=(toldB M.seen (M.n/2) (M.n/2)).size+(toldB M.seen (M.n/2) (M.n/2)).size
   rw[b.2.2.1];omega
  ·show (toldB M.seen (M.n/2) (M.n/2)).first=(toldB M.seen (M.n/2) (M.n/2)).size
   rw[b.2.1,b.2.2.1]
  ·show toldB M.seen (toldB M.seen (M.n/2) (M.n/2)).first (toldB M.seen (M.n/2) (M.n/2)).size=_
   rw[b.2.1,b.2.2.1]
  ·have h0':(toldB M.seen (M.n/2) (M.n/2)).first=0:=h0
   rw[b.2.1]at h0';omega
  ·show (toldB M.seen 0 (toldB M.seen (M.n/2) (M.n/2)).size).gen<_
   rw[b.2.2.1];exact hc
 ·rw[if_neg hc]
  refine⟨_,rfl,h,rfl,?_,h8,.inl a.2.1,?_,fun _=>?_,fun h0=>?_⟩
  ·show M.n=(toldB M.seen 0 (M.n/2)).size+(toldB M.seen 0 (M.n/2)).size
   rw[a.2.2.1];omega
  ·show toldB M.seen (toldB M.seen 0 (M.n/2)).first (toldB M.seen 0 (M.n/2)).size=_
   rw[a.2.1,a.2.2.1]
  ·show (toldB M.seen (toldB M.seen 0 (M.n/2)).size (toldB M.seen 0 (M.n/2)).size).gen≤_
   rw[a.2.2.1]
   show _≤(toldB M.seen 0 (M.n/2)).gen
   omega
  ·have h0':(toldB M.seen 0 (M.n/2)).first=(toldB M.seen 0 (M.n/2)).size:=h0
   rw[a.2.1,a.2.2.1]at h0';omega
theorem Inv.again{J:Jn}{M:Dk}(h:Inv J M):openJ M=(some J,0):=by
 have hh:=h.half
 have e:M.n/2=J.now.size:=by omega
 have h4:=h.small
 have hJ:J=⟨J.now,false⟩:=by
  have:=h.off
  cases J
  simp only at this
  rw[this]
 rw[open_live h.live h.big (by omega),e]
 have hnow:=h.now
 rcases h.first with h0 | h0
 ·rw[h0]at hnow
  have:=h.less h0
  rw[hnow,if_neg (by omega),←hJ]
 ·rw[h0]at hnow
  have:=h.more h0
  rw[hnow,if_pos this,←hJ]
theorem laying_end(h:Hf)(t:List Nat):∃ss,h.laying t=ss++[.f]:=⟨_,rfl⟩
theorem turn_live{J:Jn}{M:Dk}(h:Live M)(next:Hf)(ss:List Stp)(hs:∀s∈ss,s.fits M.n)(he:∃r,ss=r++[.f]) :
  ∃M',J.turn M next ss=(⟨next,J.off⟩,M',0)∧Live M'∧M'.n=M.n∧M'.seen=seenS M.seen ss∧M'.count=0:=by
 obtain⟨h1,h2,h3,h4⟩:=runS_live ss M h hs
 obtain⟨r,rfl⟩:=he
 refine⟨_,?_,h2,h3,h4,runS_count0 r M h fun s hs'=>hs s (by simp[hs'])⟩
 unfold Jn.turn
 rw[if_pos h1]
theorem Inv.append{J:Jn}{M:Dk}(h:Inv J M)(t:List Nat)(ht:B8 t) :
  (J.now.room<(t.length:Int)→J.append M t=(J,M,6)) ∧
  (¬J.now.room<(t.length:Int)→∃M',J.append M t=(⟨({ J.now with gen:=max J.now.gen 1 }:Hf).with t,false⟩,M',0)∧Inv ⟨({ J.now with gen:=max J.now.gen 1 }:Hf).with t,false⟩ M'∧M'.n=M.n∧M'.count=0):=by
 refine⟨fun hr=>?_,fun hr=>?_⟩
 ·unfold Jn.append
  rw[if_neg (by rw[h.off];simp),if_pos hr]
 ·have h1:=room_ok hr
  have hf:=h.fs
  have hsm:=h.small
  have hgd:=h.good
  obtain⟨k,hk⟩:∃k,({ J.now with gen:=max J.now.gen 1 }:Hf).with t=k:=⟨_,rfl⟩
  have hkF:k.first=J.now.first:=by rw[←hk];rfl
  have hkz:k.size=J.now.size:=by rw[←hk];rfl
  have hku:k.used=J.now.used+secs t.length:=by rw[←hk];rfl
  have hkg:k.gen=max J.now.gen 1:=by rw[←hk];rfl
  have hin:∀s∈k.ending++({ J.now with gen:=max J.now.gen 1 }:Hf).laying t,s.inR J.now.first (J.now.first+J.now.size):=by
   intro s hs
   rcases List.mem_append.1 hs with hs | hs
   ·have:=ending_in k (n:=J.now.first+J.now.size) (by omega) (by omega) s hs
    rwa [hkF]at this
   ·exact laying_in ({ J.now with gen:=max J.now.gen 1 }:Hf) t ht (n:=J.now.first+J.now.size) (by show J.now.first+J.now.used+_≤_;omega) s hs
  obtain⟨r,hr2⟩:=laying_end ({ J.now with gen:=max J.now.gen 1 }:Hf) t
  obtain⟨M',e1,e2,e3,e4,e5⟩:=turn_live (J:=J) h.live k (k.ending++({ J.now with gen:=max J.now.gen 1 }:Hf).laying t) (fun s hs=>(hin s hs).fits hf) ⟨k.ending++r,by rw[hr2,List.append_assoc]⟩
  have hnow:=append_told h.live.ok.seenL h.live.ok.seenB hf (by omega) t h1.1 (by rw[h.now];exact h1.2)
  rw[h.now,hk,←e4]at hnow
  rw[hk]
  refine⟨M',?_,⟨e2,rfl,?_,?_,?_,?_,fun h0=>?_,fun h0=>?_⟩,e3,e5⟩
  ·unfold Jn.append
   rw[if_neg (by rw[h.off];simp),if_neg hr,hk,e1,h.off]
  ·show M'.n=k.size+k.size
   rw[e3,hkz];exact h.half
  ·rw[e3];exact h.big
  ·show k.first=0∨k.first=k.size
   rw[hkF,hkz];exact h.first
  ·show toldB M'.seen k.first k.size=k
   rw[hkF,hkz];exact hnow
  ·have h0':J.now.first=0:=by rw[←hkF];exact h0
   show (toldB M'.seen k.size k.size).gen≤k.gen
   have ep:part M'.seen J.now.size J.now.size=part M.seen J.now.size J.now.size:=by
    rw[e4];exact seenS_out (.inr (by omega)) hf _ _ h.live.ok.seenL hin
   have et:toldB M'.seen J.now.size J.now.size=toldB M.seen J.now.size J.now.size:=by unfold toldB;rw[ep]
   rw[hkz,et,hkg]
   have:=h.less h0'
   omega
  ·have h0':J.now.first=J.now.size:=by rw[←hkF,←hkz];exact h0
   show (toldB M'.seen 0 k.size).gen<k.gen
   have ep:part M'.seen 0 J.now.size=part M.seen 0 J.now.size:=by
    rw[e4];exact seenS_out (.inl (by omega)) hf _ _ h.live.ok.seenL hin
   have et:toldB M'.seen 0 J.now.size=toldB M.seen 0 J.now.size:=by unfold toldB;rw[ep]
   rw[hkz,et,hkg]
   have:=h.more h0'
   omega
theorem someL_ne(l:List (List Nat)):someL l≠[]:=by
 unfold someL
 split
 ·simp
 ·assumption
theorem someL_B8{l:List (List Nat)}(h:∀t∈l,B8 t):∀t∈someL l,B8 t:=by
 unfold someL
 split
 ·intro t ht
  obtain rfl:=List.mem_singleton.1 ht
  intro x hx;cases hx
 ·exact h
theorem Inv.anew{J:Jn}{M:Dk}(h:Inv J M)(l:List (List Nat))(hl:∀t∈l,B8 t)(hg:J.now.gen≠1099511627776) :
  ((⟨J.now.size-J.now.first,J.now.size,J.now.gen+1,0,[]⟩:Hf).lays (someL l)=none→J.anew M l=(J,M,6)) ∧
  ∀k ls,(⟨J.now.size-J.now.first,J.now.size,J.now.gen+1,0,[]⟩:Hf).lays (someL l)=some (k,ls)→∃M',J.anew M l=(⟨k,false⟩,M',0)∧Inv ⟨k,false⟩ M'∧M'.n=M.n∧M'.count=0:=by
 have hoff:¬J.off=true:=by rw[h.off];simp
 have eo:({ J.now.other with gen:=J.now.gen+1 }:Hf)=⟨J.now.size-J.now.first,J.now.size,J.now.gen+1,0,[]⟩:=rfl
 refine⟨fun hn=>?_,fun k ls e=>?_⟩
 ·unfold Jn.anew
  rw[if_neg hoff,if_neg hg,eo,hn]
 ·obtain⟨F,hF⟩:∃F,J.now.size-J.now.first=F:=⟨_,rfl⟩
  have hsm:=h.small
  have hfst:=h.first
  have hFS:F+J.now.size≤M.n:=by have:=h.half;omega
  rw[hF]at e eo
  have ho:=lays_ok _ _ _ _ e
  have hkF:k.first=F:=ho.first
  have hkz:k.size=J.now.size:=ho.size
  have hkg:k.gen=J.now.gen+1:=ho.gen
  have hkS:k.used≤k.size:=by have:=ho.fits (Nat.zero_le _);exact this
  have hgen:=h.good.gen
  have hin:∀s∈[Stp.w F [],.f]++k.ending++ls.reverse.flatten,s.inR F (F+J.now.size):=by
   intro s hs
   rcases List.mem_append.1 hs with hs | hs
   ·rcases List.mem_append.1 hs with hs | hs
    ·simp only[List.mem_cons,List.not_mem_nil,or_false]at hs
     rcases hs with rfl | rfl
     ·exact⟨Nat.le_refl _,by omega,by simp,fun x hx=>by cases hx⟩
     ·trivial
    ·have:=ending_in k (n:=F+J.now.size) hkS (by omega) s hs
     rwa [hkF]at this
   ·have hmem:s∈ls.flatten:=by
     obtain⟨r,hr,hsr⟩:=List.mem_flatten.1 hs
     exact List.mem_flatten.2 ⟨r,List.mem_reverse.1 hr,hsr⟩
    exact lays_in (someL l) ⟨F,J.now.size,J.now.gen+1,0,[]⟩ k ls (n:=F+J.now.size) e (someL_B8 hl) (Nat.zero_le _) (Nat.le_refl _) s hmem
  have hend:∃r,[Stp.w F [],.f]++k.ending++ls.reverse.flatten=r++[.f]:=by
   cases hc:someL l with
   |nil=>exact absurd hc (someL_ne l)
   |cons t r =>
    rw[hc,Hf.lays]at e
    by_cases hr:(⟨F,J.now.size,J.now.gen+1,0,[]⟩:Hf).room<(t.length:Int)
    ·rw[if_pos hr]at e;cases e
    ·rw[if_neg hr]at e
     cases hc2:((⟨F,J.now.size,J.now.gen+1,0,[]⟩:Hf).with t).lays r with
     |none=>rw[hc2]at e;cases e
     |some p =>
      rw[hc2]at e
      simp only[Option.some.injEq,Prod.mk.injEq]at e
      obtain⟨r2,hr2⟩:=laying_end (⟨F,J.now.size,J.now.gen+1,0,[]⟩:Hf) t
      obtain⟨_,rfl⟩:=e
      exact⟨[Stp.w F [],.f]++k.ending++p.2.reverse.flatten++r2,by rw[List.reverse_cons,List.flatten_append,hr2];simp⟩
  obtain⟨M',e1,e2,e3,e4,e5⟩:=turn_live (J:=J) h.live k _ (fun s hs=>(hin s hs).fits hFS) hend
  have hnow:=anew_told h.live.ok.seenL h.live.ok.seenB hFS (by omega) (g:=J.now.gen+1) (by omega) (by omega) (someL l) (someL_ne l) (someL_B8 hl) k ls e
  rw[←e4]at hnow
  have ep:part M'.seen J.now.first J.now.size=part M.seen J.now.first J.now.size:=by
   rw[e4];exact seenS_out (by omega) hFS _ _ h.live.ok.seenL hin
  have et:toldB M'.seen J.now.first J.now.size=J.now:=by
   rw[←h.now]
   unfold toldB
   rw[show (Hf.tell (part M.seen J.now.first J.now.size) (J.now.size+1) ⟨J.now.first,J.now.size,0,0,[]⟩)=J.now from h.now,ep]
   exact h.now
  refine⟨M',?_,⟨e2,rfl,?_,?_,?_,?_,fun h0=>?_,fun h0=>?_⟩,e3,e5⟩
  ·unfold Jn.anew
   rw[if_neg hoff,if_neg hg,eo,e]
   show J.turn M k ([.w J.now.other.first [],.f]++k.ending++ls.reverse.flatten)=_
   rw[show J.now.other.first=F from hF,e1,h.off]
  ·show M'.n=k.size+k.size
   rw[e3,hkz];exact h.half
  ·rw[e3];exact h.big
  ·show k.first=0∨k.first=k.size
   rw[hkF,hkz];omega
  ·show toldB M'.seen k.first k.size=k
   rw[hkF,hkz];exact hnow
  ·have h0':F=0:=by rw[←hkF];exact h0
   show (toldB M'.seen k.size k.size).gen≤k.gen
   have ef:J.now.first=J.now.size:=by omega
   rw[ef]at et
   rw[hkz,et,hkg];omega
  ·have h0':F=J.now.size:=by rw[←hkF,←hkz];exact h0
   show (toldB M'.seen 0 k.size).gen<k.gen
   have ef:J.now.first=0:=by omega
   rw[ef]at et
   rw[hkz,et,hkg];omega
end Go.Proofs.YtlogjpmdfimgdaaGreatDoor.Jf
namespace Go.Proofs.YtlogjpmdfimgdaaGreatDoor.Jf
open Go Go.RowKit Go.Own.Jf Go.Own.Fr
structure AnI(w:World)(L3:List Obj)(b5 i:Nat)(h0:Hf)(bs:List ByteArray)(k:Nat)(L:List Obj)(v7 vt:Value)(H:Hf)(lss:List (List Stp))(R:List Value)(css:List (List Value)):Prop where
 lays:h0.lays ((bs.take k).map bys)=some (H,lss)
 box:L[b5]?=some (.cells (hcl (.pointer (some ⟨w.heap.size+i,0,none⟩)) H.first H.size H.gen vt H.used) 107 (0,0))
 row7:RowV (fun p=>L3.length≤p∧NotAt w vt p) w L 1 k v7 R
 rowt:RowV (fun p=>L3.length≤p∧NotAt w v7 p) w L 1 k vt (strs ((bs.take k).map bys))
 cl:css.length=k
 each:∀(j:Nat) x vs ss,R[j]?=some x→css[j]?=some vs→lss[j]?=some ss→RowV (fun p=>L3.length≤p∧NotAt w v7 p∧NotAt w vt p) w L 1 vs.length x vs∧Steps w L (fun p=>L3.length≤p∧NotAt w v7 p∧NotAt w vt p) i vs ss
 keep:L3.length≤L.length∧∀p,p<L3.length→p≠b5→L[p]?=L3[p]?
theorem AnI.start{w:World}{L3:List Obj}{b5 i:Nat}{h0:Hf}{bs:List ByteArray}(hb:L3[b5]?=some (.cells (hcl (.pointer (some ⟨w.heap.size+i,0,none⟩)) h0.first h0.size h0.gen (.slice none 0 0) h0.used) 107 (0,0))):AnI w L3 b5 i h0 bs 0 L3 (.slice none 0 0) (.slice none 0 0) h0 [] [] [] :=
 ⟨rfl,hb,.inl ⟨rfl,rfl,rfl⟩,.inl ⟨rfl,rfl,rfl⟩,rfl,fun j x vs ss h=>by simp at h,Nat.le_refl _,fun _ _ _=>rfl⟩
theorem rowV_lt{A:Nat→Prop}{w:World}{l:List Obj}{sz n:Nat}{v:Value}{C:List Value}(h:RowV A w l sz n v C){p:Nat}(hp:¬NotAt w v p):p<l.length:=by
 rcases Nat.lt_or_ge p l.length with h' | h'
 ·exact h'
 ·exact absurd (h.beyond h') hp
theorem AnI.step{w:World}{L3:List Obj}{b5 i:Nat}{h0:Hf}{bs:List ByteArray}{k:Nat}{L:List Obj}{v7 vt:Value}{H:Hf}{lss:List (List Stp)}{R:List Value}{css:List (List Value)}(h:AnI w L3 b5 i h0 bs k L v7 vt H lss R css)(hb5:b5<L3.length)
  {s:ByteArray} (hs:bs[k]?=some s) (hroom:¬H.room<((bys s).length:Int)) {La Lb Lc:List Obj} {v v7' vt':Value} {vs:List Value}
  (ha:L.length≤La.length∧∀p,p<L.length→La[p]?=L[p]?) (hv:RowV (fun p=>L.length≤p) w La 1 vs.length v vs) (hst:Steps w La (fun p=>L.length≤p) i vs (H.laying (bys s)))
  (hb:La.length≤Lb.length∧∀p,p<La.length→NotAt w v7 p→Lb[p]?=La[p]?) (h7:RowV (fun p=>¬NotAt w v7 p∨La.length≤p) w Lb 1 (k+1) v7' (R++[v]))
  (hc:Lb.length≤Lc.length∧∀p,p<Lb.length→NotAt w vt p→Lc[p]?=Lb[p]?) (ht:RowV (fun p=>¬NotAt w vt p∨Lb.length≤p) w Lc 1 (k+1) vt' (strs ((bs.take k).map bys++[bys s]))) :
  AnI w L3 b5 i h0 bs (k+1) (Lc.set b5 (.cells (hcl (.pointer (some ⟨w.heap.size+i,0,none⟩)) H.first H.size H.gen vt' (H.used+secs s.size)) 107 (0,0))) v7' vt' (H.with (bys s)) (lss++[H.laying (bys s)]) (R++[v]) (css++[vs]):=by
 have hL3:=h.keep.1
 have e1:(bs.take (k+1)).map bys=(bs.take k).map bys++[bys s]:=by rw[List.take_add_one,hs];simp
 have hRl:R.length=k:=by have:=h.row7.length;omega
 have hll:lss.length=k:=by
  have:=(lays_ok _ _ _ _ h.lays).len
  rw[this,List.length_map,List.length_take]
  have:=(List.getElem?_eq_some_iff.1 hs).1
  omega
 have k0:∀p,p<L3.length→NotAt w v7 p∧NotAt w vt p:=fun p hp=>⟨rowV_off h.row7 fun h'=>by omega,rowV_off h.rowt fun h'=>by omega⟩
 have kset:∀p,p≠b5→(Lc.set b5 (.cells (hcl (.pointer (some ⟨w.heap.size+i,0,none⟩)) H.first H.size H.gen vt' (H.used+secs s.size)) 107 (0,0)))[p]?=Lc[p]?:=fun p hp=>List.getElem?_set_ne fun e=>hp e.symm
 have kk:∀p,p<La.length→p≠b5→NotAt w v7 p→NotAt w vt p→(Lc.set b5 (.cells (hcl (.pointer (some ⟨w.heap.size+i,0,none⟩)) H.first H.size H.gen vt' (H.used+secs s.size)) 107 (0,0)))[p]?=La[p]?:=fun p hp hne n1 n2=>by
  rw[kset p hne,hc.2 p (by omega) n2,hb.2 p hp n1]
 have o7:∀p,p<La.length→NotAt w v7 p→NotAt w v7' p:=fun p hp hn=>rowV_off h7 fun h'=>h'.elim (fun h2=>h2 hn) fun h2=>by omega
 have ot:∀p,p<Lb.length→NotAt w vt p→NotAt w vt' p:=fun p hp hn=>rowV_off ht fun h'=>h'.elim (fun h2=>h2 hn) fun h2=>by omega
 refine⟨?_,?_,?_,?_,by rw[List.length_append,h.cl];rfl,fun j x us ss h1 h2 h3=>?_,by rw[List.length_set];omega,fun p hp hne=>?_⟩
 ·rw[e1,lays_snoc,h.lays]
  simp only
  rw[if_neg hroom]
 ·rw[set_some (show Lc[b5]?=some (Lc[b5]'(by omega))from List.getElem?_eq_getElem _),←bys_length]
  rfl
 ·refine h7.mono fun p hp hlt=>?_
  have hp2:L3.length≤p∧NotAt w vt p:=by
   rcases hp with hp | hp
   ·exact rowV_on h.row7 hp
   ·exact⟨by omega,h.rowt.beyond (by omega)⟩
  exact⟨⟨hp2.1,ot p hlt hp2.2⟩,by rw[kset p (by omega),hc.2 p hlt hp2.2]⟩
 ·rw[e1]
  refine ht.mono fun p hp hlt=>?_
  have hp2:L3.length≤p∧NotAt w v7' p:=by
   rcases hp with hp | hp
   ·have h1:=rowV_on h.rowt hp
    have h2:=rowV_lt h.rowt hp
    exact⟨h1.1,o7 p (by omega) h1.2⟩
   ·exact⟨by omega,h7.beyond hp⟩
  exact⟨hp2,kset p (by omega)⟩
 ·by_cases hj:j<k
  ·rw[List.getElem?_append_left (by omega)]at h1
   rw[List.getElem?_append_left (by rw[h.cl];omega)]at h2
   rw[List.getElem?_append_left (by omega)]at h3
   have h4:=h.each j x us ss h1 h2 h3
   have hm:∀p,(L3.length≤p∧NotAt w v7 p∧NotAt w vt p)→p<L.length→(L3.length≤p∧NotAt w v7' p∧NotAt w vt' p)∧(Lc.set b5 (.cells (hcl (.pointer (some ⟨w.heap.size+i,0,none⟩)) H.first H.size H.gen vt' (H.used+secs s.size)) 107 (0,0)))[p]?=L[p]?:=fun p hp hlt =>
    ⟨⟨hp.1,o7 p (by omega) hp.2.1,ot p (by omega) hp.2.2⟩,by rw[kk p (by omega) (by omega) hp.2.1 hp.2.2,ha.2 p hlt]⟩
   exact⟨h4.1.mono hm,h4.2.mono hm⟩
  ·have hjk:j=k:=by
    have:=(List.getElem?_eq_some_iff.1 h1).1
    rw[List.length_append,List.length_singleton]at this;omega
   subst hjk
   rw[List.getElem?_append_right (by omega),hRl,Nat.sub_self]at h1
   rw[List.getElem?_append_right (by rw[h.cl];omega),h.cl,Nat.sub_self]at h2
   rw[List.getElem?_append_right (by omega),hll,Nat.sub_self]at h3
   simp at h1 h2 h3
   subst h1;subst h2;subst h3
   have hm:∀p,L.length≤p→p<La.length→(L3.length≤p∧NotAt w v7' p∧NotAt w vt' p)∧(Lc.set b5 (.cells (hcl (.pointer (some ⟨w.heap.size+i,0,none⟩)) H.first H.size H.gen vt' (H.used+secs s.size)) 107 (0,0)))[p]?=La[p]?:=fun p hp hlt =>
    have n1:=h.row7.beyond hp
    have n2:=h.rowt.beyond hp
    ⟨⟨by omega,o7 p hlt n1,ot p (by omega) n2⟩,kk p hlt (by omega) n1 n2⟩
   exact⟨hv.mono hm,hst.mono hm⟩
 ·rw[kk p (by omega) hne (k0 p hp).1 (k0 p hp).2,ha.2 p (by omega)]
  exact h.keep.2 p hp hne
theorem map_rev_get{α:Type}(l:List α)(j n:Nat)(hn:l.length=n)(hj:j<n):l.reverse[j]?=l[n-1-j]?:=by
 rw[List.getElem?_reverse (by omega),hn]
theorem AnI.rev{w:World}{L3:List Obj}{b5 i B:Nat}{h0:Hf}{bs:List ByteArray}{n:Nat}{L:List Obj}{v7 vt:Value}{H:Hf}{lss:List (List Stp)}{R:List Value}{css:List (List Value)}(h:AnI w L3 b5 i h0 bs n L v7 vt H lss R css)(hB:B≤L3.length)(hn:bs.length=n)(hn1:1≤n){b cap:Nat}{X:List Value}{T:TypeId}{Y:Array Value}
  (hv:v7=.slice (some ⟨w.heap.size+b,0,none⟩) n cap) (hX:X.take n=R) (hbl:b<L.length) (hb3:L3.length≤b) (h1:∀j,j<n→Y[j]?=X[n-1-j]?) (d:Nat) :
  rrB w B i lss.reverse v7 (Wd w (L.set b (.cells Y T (0,0))) d):=by
 have hll:lss.length=n:=by
  have:=(lays_ok _ _ _ _ h.lays).len
  rw[this,List.length_map,List.length_take];omega
 have hRl:R.length=n:=by have:=h.row7.length;omega
 have hXl:n≤X.length:=by rw[←hX,List.length_take]at hRl;omega
 have hYs:n≤Y.size:=by
  have e:=h1 (n-1) (by omega)
  rw[show n-1-(n-1)=0 by omega,List.getElem?_eq_getElem (by omega)]at e
  have:=(Array.getElem?_eq_some_iff.1 e).1
  omega
 refine⟨b,cap,Y.toList,T,css.reverse,_,d,rfl,by rw[List.length_set];have:=h.keep.1;omega,by omega,by rw[List.length_reverse,hll];exact hv,by rw[Array.toArray_toList];exact set_some (show L[b]?=some (L[b]'hbl)from List.getElem?_eq_getElem _),by rw[List.length_reverse,hll,Array.length_toList];exact hYs,by rw[List.length_reverse,List.length_reverse,h.cl,hll],fun k x vs ss e1 e2 e3=>?_⟩
 have hk:k<n:=by
  have:=(List.getElem?_eq_some_iff.1 e2).1
  rw[List.length_reverse,h.cl]at this;exact this
 rw[Array.getElem?_toList,h1 k hk]at e1
 rw[map_rev_get _ _ n h.cl hk]at e2
 rw[map_rev_get _ _ n hll hk]at e3
 have e1':R[n-1-k]?=some x:=by rw[←hX,List.getElem?_take_of_lt (by omega)];exact e1
 have h4:=h.each _ x vs ss e1' e2 e3
 have hm:∀p,(L3.length≤p∧NotAt w v7 p∧NotAt w vt p)→p<L.length→B≤p∧(L.set b (.cells Y T (0,0)))[p]?=L[p]?:=fun p hp _=>⟨by omega,List.getElem?_set_ne fun e=>hp.2.1 n cap (by rw[hv,e])⟩
 exact⟨h4.1.mono hm,h4.2.mono hm⟩
end Go.Proofs.YtlogjpmdfimgdaaGreatDoor.Jf
namespace Go.Proofs.YtlogjpmdfimgdaaGreatDoor.Jf
open Go Go.RowKit Go.Own.Jf Go.Own.Fr
attribute [-go_sem] Sm.execOp_bs run_string_add_if
theorem stX_at{P:Program}{T:TypeId}{w:World}{l:List Obj}{d i o:Nat}{c:Array Value}{v z:Value}{t:TypeId}(h1:(sizeOf T).run P (Wd w l d)=.ok 1 (Wd w l d))(h2:l[i]?=some (.cells c t (0,0)))(hv:v.oneCell'=true)(h3:c[o]?=some z) :
  stX P T 1 (some (.cells c t (0,0))) w l d i o v=.ok () (Wd w (l.set i (.cells (splA c o [v]) t (0,0))) d) :=
 stX_mix1 h1 hv h2 (Array.getElem?_eq_some_iff.1 h3).1
theorem splA_get{c:Array Value}{o:Nat}{v z:Value}(h:c[o]?=some z)(j:Nat):(splA c o [v])[j]?=if o=j then some v else c[j]?:=by
 have ho:o<c.toList.length:=by rw[Array.length_toList];exact(Array.getElem?_eq_some_iff.1 h).1
 have e:splA c o [v]=(c.toList.set o v).toArray:=by
  unfold splA
  rw[List.set_eq_take_append_cons_drop,if_pos ho]
  simp
 rw[e,List.getElem?_toArray,List.getElem?_set]
 split
 ·rfl
 ·rw[Array.getElem?_toList]
attribute [local go_sem] agj78 isaj78 csj78 szj78 ldX_mix1 stX_at
def RevI(X:List Value)(n k:Nat)(Y:Array Value):Prop:=∀j,Y[j]?=if j<k∨(n≤j+k∧j<n)then X[n-1-j]? else X[j]?
set_option maxRecDepth 100000 in
set_option maxHeartbeats 4000000 in
theorem reverse_any(w:World)(l:List Obj)(d b n cap:Nat)(X:List Value)(T:TypeId)(hb:l[b]?=some (.cells X.toArray T (0,0)))(hn:n≤X.length)(hn1:1≤n)(hn2:n≤100000)(h1:∀(j:Nat) v,j<n→X[j]?=some v→v.oneCell'=true) :
  Calls Tryz.prog 87 #[.slice (some ⟨w.heap.size+b,0,none⟩) n cap] (Wd w l d) fun e w'=>(∃v,e=.returned v)∧∃Y d',w'=Wd w (l.set b (.cells Y T (0,0))) d'∧(∀j,j<n→Y[j]?=X[n-1-j]?)∧∀j,n≤j→Y[j]?=X[j]?:=by
 have HB:=Lib.hid hb
 have hlb:l=l.set b (.cells X.toArray T (0,0)):=by
  apply List.ext_getElem?
  intro p
  by_cases e:b=p
  ·subst e;rw[set_some hb,hb]
  ·rw[List.getElem?_set_ne e]
 have HLB:=Lib.hid hlb
 have HNX:=Lib.hid hn
 clear hb hlb hn
 go_enter Tryz.func87,Tryz.ntmps87
 go_wp2_with fail
 go_loopw [2,3] (fun e ix wr=>∃(k:Nat) (Y:Array Value) (L:List Obj) (d:Nat),k≤n/2∧e=.int .i64 (k:Int)∧ix=.int .i64 ((n:Int)-1-(k:Int))∧Hid (RevI X n k Y)∧Hid (L=l.set b (.cells Y T (0,0)))∧wr=Wd w L d) (fun e _ _=>n-(intOf e).toNat)
 case atStart=>exact⟨0,X.toArray,l,d,Nat.zero_le _,rfl,by congr 1;omega,Lib.hid (fun j=>by rw[if_neg (by omega),List.getElem?_toArray]),HLB,rfl⟩
 case round =>
  obtain⟨k,Y,L,d2,hk,rfl,rfl,HI,HL,rfl⟩:=hrel
  by_cases hlt:(k:Int)<(n:Int)-1-(k:Int)
  ·obtain⟨c,hc⟩:∃c,n-1-k=c:=⟨_,rfl⟩
   have hci:(n:Int)-1-(k:Int)=(c:Int):=by omega
   have hcell:L[b]?=some (.cells Y T (0,0)):=by rw[HL.out];exact set_some HB.out
   obtain⟨x,hxX⟩:∃x,X[k]?=some x:=⟨_,List.getElem?_eq_getElem (by have:=HNX.out;omega)⟩
   obtain⟨y,hyX⟩:∃y,X[c]?=some y:=⟨_,List.getElem?_eq_getElem (by have:=HNX.out;omega)⟩
   have hx:Y[k]?=some x:=by rw[HI.out k,if_neg (by omega)];exact hxX
   have hy:Y[c]?=some y:=by rw[HI.out c,if_neg (by omega)];exact hyX
   have hx1:x.oneCell'=true:=h1 k x (by omega) hxX
   have hy1:y.oneCell'=true:=h1 c y (by omega) hyX
   have hsp:(splA Y k [y])[c]?=some y:=by rw[splA_get hx,if_neg (by omega)];exact hy
   have HI2:Hid (RevI X n (k+1) (splA (splA Y k [y]) c [x])):=Lib.hid fun j=>by
    rw[splA_get hsp,splA_get hx,HI.out j]
    by_cases e1:c=j
    ·subst e1
     rw[if_pos rfl,if_pos (by omega),show n-1-c=k by omega,hxX]
    ·rw[if_neg e1]
     by_cases e2:k=j
     ·subst e2
      rw[if_pos rfl,if_pos (by omega),hc,hyX]
     ·rw[if_neg e2]
      by_cases e3:j<k∨(n≤j+k∧j<n)
      ·rw[if_pos e3,if_pos (by omega)]
      ·rw[if_neg e3,if_neg (by omega)]
   have HXY:=Lib.hid (And.intro hxX hyX)
   have HC:=Lib.hid hc
   rw[hci]at hlt ⊢
   have hkn:(k:Int)<n:=by omega
   have hcn:(c:Int)<n:=by omega
   have hc0:(0:Int)≤c:=by omega
   have hsl:∀Z,(L.set b Z)[b]?=some Z:=fun Z=>set_some hcell
   have hkm:k+1≤n/2:=by omega
   clear hxX hyX hc hci
   go_wp2_with fail
   go_region
   go_wp2
   go_roundw
   case rel=>exact⟨k+1,_,_,_,hkm,by go_num,by have:=HC.out;congr 1;omega,HI2,Lib.hid (by rw[HL.out];simp),rfl⟩
   case measure=>simp[intOf];omega
  ·have hkn:k=n/2:=by omega
   go_wp2
   go_end0
   refine⟨⟨_,rfl⟩,Y,⟨d2,by rw[HL.out]⟩,fun j hj=>?_,fun j hj=>?_⟩
   ·rw[HI.out j]
    by_cases e3:j<k∨(n≤j+k∧j<n)
    ·rw[if_pos e3]
    ·rw[if_neg e3,show n-1-j=j by omega]
   ·rw[HI.out j,if_neg (by omega)]
end Go.Proofs.YtlogjpmdfimgdaaGreatDoor.Jf

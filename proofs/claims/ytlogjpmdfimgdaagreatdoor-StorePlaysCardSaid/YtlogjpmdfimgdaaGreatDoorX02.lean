/- The keys of a map that are wanted, the lesser ones ahead (store's rising), and the tests: by contract. No condition but the sizes. | A byte laid behind a number of 64 bits, with a sign and without. No program. | Bytes taken off a text; a copy of a text: by contract. No condition but the sizes. | Is a value small enough? By contract. No condition but that it is a value. | Of: the document's value as one that is told by its type, by contract. No condition but that it is small enough. | A value read off a text: texts and lists; by contract. No condition but the sizes. | A list read off a text, by contract. No condition but the sizes. -/
import Derived.Test.YtlogjpmdfimgdaaGreatDoorX01
import Derived.WalkKit
import Derived.Shelf.Strconv.Clone
import Derived.WalkLawsBesides
import Derived.OneCell
namespace Go.Proofs.YtlogjpmdfimgdaaGreatDoor
open Go.RowKit Go.Own Go.Maps Go.WideMaps
def begB(s p:ByteArray):Bool:=decide (p.size≤s.size∧s.extract 0 p.size=p)
theorem toL_eq{a b:ByteArray}(h:a=b):(a.toList == b.toList)=true:=by subst h;exact beq_self_eq_true _
theorem toL_ne{a b:ByteArray}(h:a≠b):(a.toList == b.toList)=false:=beq_eq_false_iff_ne.2 fun h2=>by
 rw[ByteArray.toList_eq,ByteArray.toList_eq]at h2
 exact h (ByteArray.ext (Array.toList_inj.1 h2))
set_option maxRecDepth 100000 in
theorem hasp_any(s p:ByteArray)(w:World):Calls Tryz.prog 51 #[.string s,.string p] w fun e w'=>e=.returned (.bool (begB s p))∧w=w':=by
 unfold begB
 by_cases h1:p.size≤s.size
 ·have d1:decide ((p.size:Int)≤(s.size:Int))=true:=by simp;omega
  by_cases h2:s.extract 0 p.size=p
  ·have e:=toL_eq h2
   rw[decide_eq_true ⟨h1,h2⟩]
   clear h2
   go_enter Tryz.func51,Tryz.ntmps51
   go_wp2
   go_ret
   exact⟨rfl,rfl⟩
  ·have e:=toL_ne h2
   rw[decide_eq_false (fun h=>h2 h.2)]
   clear h2
   go_enter Tryz.func51,Tryz.ntmps51
   go_wp2
   go_ret
   exact⟨rfl,rfl⟩
 ·have d1:¬(p.size:Int)≤(s.size:Int):=by omega
  rw[decide_eq_false (fun h=>h1 h.1)]
  clear h1
  go_enter Tryz.func51,Tryz.ntmps51
  go_wp2
  go_ret
  exact⟨rfl,rfl⟩
theorem hasPrefix_any(s p:ByteArray)(w:World):Calls Tryz.prog 31 #[.string s,.string p] w fun e w'=>e=.returned (.bool (begB s p))∧w=w':=by
 have H:=Lib.hid (hasp_any s p w)
 go_enter Tryz.func31,Tryz.ntmps31
 go_wp2_with fail
 refine H.out.mono ?_
 rintro e w' ⟨rfl,rfl⟩
 go_wp2
 go_ret
 exact⟨rfl,rfl⟩
theorem want30(s p:ByteArray)(pb:Nat)(w:World)(h:w.heap[pb]?=some (.cells #[.string p] 9 (0,0))) :
  Calls Tryz.prog 30 #[.string s,.pointer (some ⟨pb,0,none⟩)] w fun e w'=>e=.returned (.bool (begB s p))∧w=w':=by
 have H:=Lib.hid (hasPrefix_any s p w)
 have c0:=cell_of_one h
 clear h
 go_enter Tryz.func30,Tryz.ntmps30
 go_wp2_with fail
 refine H.out.mono ?_
 rintro e w' ⟨rfl,rfl⟩
 go_wp2
 go_ret
 exact⟨rfl,rfl⟩
theorem want88(s:ByteArray)(w:World):Calls Tryz.prog 88 #[.string s] w fun e w'=>e=.returned (.bool true)∧w=w':=by
 go_enter Tryz.func88,Tryz.ntmps88
 go_wp2
 go_ret
 exact⟨rfl,rfl⟩
def RiseQ(f:ByteArray→Option Value)(p:ByteArray→Bool)(w:World)(e:Ending)(w':World):Prop :=
 ∃v ks,e=.returned v∧OwnS w' w.heap.size v ks∧(Rises f p ks∧ks.length≤1000000)∧Below w.heap.size w w'
theorem keyStr:∀key lit,keyOf Tryz.prog 9 key=some lit→∃x,key=Value.string x:=fun key lit h=>by
 obtain⟨s,h1,_,_⟩:=string_of_keyOf Tryz.underlying9 h
 exact⟨s,h1⟩
theorem ownsRow_less{w:World}{B B':Nat}{v:Value}{l:List ByteArray}(h:OwnS w B v l)(hb:B'≤B):OwnS w B' v l:=by
 rcases h with⟨h1,h2 | ⟨g,cap,cur,e,hg,h3⟩⟩
 ·exact⟨h1,Or.inl h2⟩
 ·exact⟨h1,Or.inr ⟨g,cap,cur,e,Nat.le_trans hb hg,h3⟩⟩
theorem has_sizes{w:World}{b n:Nat}{D:DataW Value}(h:w.ownsMap Tryz.prog 9 RV b n D)(hn:n≤1000000):Maps.size D≤1000000:=Nat.le_trans h.size_le hn
set_option maxRecDepth 100000 in
set_option maxHeartbeats 1000000 in
theorem risingP(b n:Nat)(f:ByteArray→Option Value)(p:ByteArray→Bool)(pb:Nat)(w:World)(h:MapV w b n f)(hn:n≤1000000)(hw:∀s W,Below w.heap.size w W→Calls Tryz.prog 30 #[.string s,.pointer (some ⟨pb,0,none⟩)] W fun e w'=>e=.returned (.bool (p s))∧W=w') :
  Calls Tryz.prog 29 #[.map (some b),.func (.func 30) #[] #[.pointer (some ⟨pb,0,none⟩)]] w (RiseQ f p w):=by
 obtain⟨D,hown,hf⟩:=h
 have hbl:=hown.lt
 have HSO:=Lib.hid sort_any
 have HC:Hid (∀s W,Below w.heap.size w W→Calls Tryz.prog 30 #[.string s,.pointer (some ⟨pb,0,none⟩)] W fun e w'=>e=.returned (.bool (p s))∧W=w'):=Lib.hid fun s W hB=>hw s W hB
 have hSZ:=has_sizes hown hn
 have HF:=Lib.hid hf
 clear hf
 go_enter Tryz.func29,Tryz.ntmps29
 go_wp2_with (first
  | (at_range;refine wpList_range_own _ rfl _ 84 rfl 9 20 law9 Tryz.underlying84 _ b n _ rfl hown ?_;intro w0 hrg0 hg0 hs0)
  |go_in)
 try go_frame
 have hB0:Below w.heap.size w w0:=(Below.refl _ w).grown hg0 (Nat.le_refl _) (fun k hk=>by cases hk)
 go_loopw [5] (fun v wr=>∃(left:Lit→Bool) (cnt:Nat) (ks:List ByteArray),wr.ranges Tryz.prog 9 RV b w.heap.size n D left cnt∧Hid (Below w.heap.size w wr)∧Hid (OwnS wr (w.heap.size+1) v ks)∧Hid ks.Nodup∧cnt+ks.length≤1000000 ∧
   Hid (∀s,s∈ks↔(has D (kl s)=true∧left (kl s)=false∧p s=true)))
  (fun _ wr=>wr.rangeLeft b w.heap.size)
 case atStart =>
  exact⟨_,_,[],hrg0,Lib.hid hB0,Lib.hid (OwnS.nil _ _),Lib.hid List.nodup_nil,by simpa using hSZ,Lib.hid fun s=>⟨fun h=>(List.not_mem_nil h).elim,fun h=>by rw[h.1]at h;exact absurd h.2.1 (by simp)⟩⟩
 case round =>
  obtain⟨left,cnt,ks,hrg,hB,hO,hN,hcnt,hM⟩:=hrel
  go_wp2_with (first
   | (at_next;refine wpList_next_ranges (α:=ByteArray) (β:=Value) _ rfl _ rfl 9 law9 RV Value.string id keyStr (fun v y _=>⟨v,rfl⟩) b w.heap.size n _ _ _ rfl hrg ?_ ?_)
   |go_in)
  ·intro _ hl0
   have hM2:Hid (∀s,s∈ks↔((f s).isSome=true∧p s=true)):=Lib.hid fun s=>by
    rw[hM.out s,hl0]
    rcases HF.out s with⟨a1,a2⟩ | ⟨v,a1,a2,_⟩
    ·rw[a1,a2];simp
    ·rw[a1,a2];simp
   have hR:Hid (Rises f p (sortS ks)):=Lib.hid (rises_of hN.out hM2.out)
   have hkl:ks.length≤1000000:=by omega
   have HKL:Hid ((sortS ks).length≤1000000):=Lib.hid (by rw[(sortS_perm ks).length_eq];exact hkl)
   have HS:=Lib.hid (HSO.out wr (w.heap.size+1) u5 ks hO.out hkl)
   clear hM hM2 HF hN HC HSO
   go_wp2_with fail
   refine HS.out.mono ?_
   rintro e w' ⟨rfl,hO2,hg⟩
   have hQ:Hid (RiseQ f p w (.returned u5) w'):=Lib.hid ⟨u5,_,rfl,ownsRow_less hO2 (by omega),⟨hR.out,HKL.out⟩,hB.out.grown hg (by have:=hB.out.size;omega) (fun k hk=>by have:=(hO.out.lt k hk).1;omega)⟩
   go_wp2
   go_ret
   exact hQ.out
  ·intro x c klx d0 pl0 w1 cnt1 hkey hlx _ hat hrg1 hlt hg1 hs1 hen
   obtain⟨x',ex,rfl,hxs⟩:=string_of_keyOf Tryz.underlying9 hkey
   cases ex
   have hB1:Hid (Below w.heap.size w w1):=Lib.hid (hB.out.grown hg1 (by have:=hB.out.size;omega) (fun k hk=>by cases hk;omega))
   have hO1:Hid (OwnS w1 (w.heap.size+1) u5 ks):=Lib.hid (hO.out.kept hg1 (Or.inr fun e=>by have:=(hO.out.lt _ e).1;omega))
   have hhas:has D (kl x)=true:=by
    cases e:has D (kl x)with
    |true=>rfl
    |false=>have h1:=hat (.held .nilIface);have h2:=hat .nil;rw[show Lit.string x.data.toList=kl x from rfl,atKey_of_not_has e]at h1 h2;rw[←h1]at h2;cases h2
   have hnot:x ∉ ks:=fun hx=>by have:=((hM.out x).1 hx).2.1;rw[show kl x=Lit.string x.data.toList from rfl,hlx]at this;cases this
   have hcall:=Lib.hid (HC.out x w1 hB1.out)
   have hlen1:cnt1+(ks.length+1)≤1000000:=by omega
   have hNX:=Lib.hid (show (ks++[x]).Nodup from List.nodup_append.2 ⟨hN.out,by simp,fun a ha b hb e=>by simp at hb;subst hb;subst e;exact hnot ha⟩)
   have hstay:Hid (p x=false→∀s,s∈ks↔(has D (kl s)=true∧(left (kl s) && !(kl s).sameKey (kl x))=false∧p s=true)):=Lib.hid fun hpx s=>by
    rw[hM.out s]
    by_cases e:s=x
    ·subst e
     rw[hpx]
     simp
    ·have:(kl s).sameKey (kl x)=false:=by
      cases h:(kl s).sameKey (kl x)with
      |false=>rfl
      |true=>exact absurd (kl_inj (WideAt.sameKey_eq h)) e
     rw[this]
     simp
   have hmore:Hid (p x=true→∀s,s∈ks++[x]↔(has D (kl s)=true∧(left (kl s) && !(kl s).sameKey (kl x))=false∧p s=true)):=Lib.hid fun hpx s=>by
    rw[List.mem_append,hM.out s,List.mem_singleton]
    by_cases e:s=x
    ·subst e
     rw[WideAt.sameKey_self (kl_key s),hhas,hpx]
     simp
    ·have:(kl s).sameKey (kl x)=false:=by
      cases h:(kl s).sameKey (kl x)with
      |false=>rfl
      |true=>exact absurd (kl_inj (WideAt.sameKey_eq h)) e
     rw[this]
     simp[e]
   clear hM hhas hnot hcnt hat HF
   cases hpx:p x with
   |false =>
    rw[hpx]at hcall
    go_wp2_with fail
    refine hcall.out.mono ?_
    rintro e w' ⟨rfl,rfl⟩
    go_wp2
    go_roundw
    case rel=>exact⟨_,cnt1,ks,hrg1,hB1,hO1,hN,by omega,Lib.hid (hstay.out hpx)⟩
    case measure=>rw[hrg1.left_eq,hrg.left_eq];exact hlt
   |true =>
    rw[hpx]at hcall
    go_wp2_with fail
    refine hcall.out.mono ?_
    rintro e w' ⟨rfl,rfl⟩
    go_wp2_with (first | (at_builtin;refine wpList_str rfl (.tmp 16) (.tmp 18) rfl w1 (w.heap.size+1) u5 ks x rfl rfl hO1.out (congrArg (fun k=>Value.slice (some ⟨k,0,none⟩) 1 1) hs1.symm) (by omega) (by have:=hrg1.lt;omega) ?_;intro v' w2 hO2 hg2 hb2) | go_in)
    have hne1:some b≠u5.ownBlock:=fun e=>by have:=(hO1.out.lt b e.symm).1;omega
    have hne2:some w.heap.size≠u5.ownBlock:=fun e=>by have:=(hO1.out.lt _ e.symm).1;omega
    have hrg2:=hrg1.kept hg2 hne1 hne2
    have hB2:Hid (Below w.heap.size w w2):=Lib.hid (hB1.out.trans (hb2.mono (by omega)))
    go_roundw
    case rel=>exact⟨_,cnt1,_,hrg2,hB2,Lib.hid hO2,hNX,by rw[List.length_append];exact hlen1,Lib.hid (hmore.out hpx)⟩
    case measure=>rw[hrg2.left_eq,hrg.left_eq];exact hlt
set_option maxRecDepth 100000 in
set_option maxHeartbeats 1000000 in
theorem risingA(b n:Nat)(f:ByteArray→Option Value)(p:ByteArray→Bool)(w:World)(h:MapV w b n f)(hn:n≤1000000)(hw:∀s W,Below w.heap.size w W→Calls Tryz.prog 88 #[.string s] W fun e w'=>e=.returned (.bool (p s))∧W=w') :
  Calls Tryz.prog 29 #[.map (some b),.func (.func 88) #[] #[]] w (RiseQ f p w):=by
 obtain⟨D,hown,hf⟩:=h
 have hbl:=hown.lt
 have HSO:=Lib.hid sort_any
 have HC:Hid (∀s W,Below w.heap.size w W→Calls Tryz.prog 88 #[.string s] W fun e w'=>e=.returned (.bool (p s))∧W=w'):=Lib.hid fun s W hB=>hw s W hB
 have hSZ:=has_sizes hown hn
 have HF:=Lib.hid hf
 clear hf
 go_enter Tryz.func29,Tryz.ntmps29
 go_wp2_with (first
  | (at_range;refine wpList_range_own _ rfl _ 84 rfl 9 20 law9 Tryz.underlying84 _ b n _ rfl hown ?_;intro w0 hrg0 hg0 hs0)
  |go_in)
 try go_frame
 have hB0:Below w.heap.size w w0:=(Below.refl _ w).grown hg0 (Nat.le_refl _) (fun k hk=>by cases hk)
 go_loopw [5] (fun v wr=>∃(left:Lit→Bool) (cnt:Nat) (ks:List ByteArray),wr.ranges Tryz.prog 9 RV b w.heap.size n D left cnt∧Hid (Below w.heap.size w wr)∧Hid (OwnS wr (w.heap.size+1) v ks)∧Hid ks.Nodup∧cnt+ks.length≤1000000 ∧
   Hid (∀s,s∈ks↔(has D (kl s)=true∧left (kl s)=false∧p s=true)))
  (fun _ wr=>wr.rangeLeft b w.heap.size)
 case atStart =>
  exact⟨_,_,[],hrg0,Lib.hid hB0,Lib.hid (OwnS.nil _ _),Lib.hid List.nodup_nil,by simpa using hSZ,Lib.hid fun s=>⟨fun h=>(List.not_mem_nil h).elim,fun h=>by rw[h.1]at h;exact absurd h.2.1 (by simp)⟩⟩
 case round =>
  obtain⟨left,cnt,ks,hrg,hB,hO,hN,hcnt,hM⟩:=hrel
  go_wp2_with (first
   | (at_next;refine wpList_next_ranges (α:=ByteArray) (β:=Value) _ rfl _ rfl 9 law9 RV Value.string id keyStr (fun v y _=>⟨v,rfl⟩) b w.heap.size n _ _ _ rfl hrg ?_ ?_)
   |go_in)
  ·intro _ hl0
   have hM2:Hid (∀s,s∈ks↔((f s).isSome=true∧p s=true)):=Lib.hid fun s=>by
    rw[hM.out s,hl0]
    rcases HF.out s with⟨a1,a2⟩ | ⟨v,a1,a2,_⟩
    ·rw[a1,a2];simp
    ·rw[a1,a2];simp
   have hR:Hid (Rises f p (sortS ks)):=Lib.hid (rises_of hN.out hM2.out)
   have hkl:ks.length≤1000000:=by omega
   have HKL:Hid ((sortS ks).length≤1000000):=Lib.hid (by rw[(sortS_perm ks).length_eq];exact hkl)
   have HS:=Lib.hid (HSO.out wr (w.heap.size+1) u5 ks hO.out hkl)
   clear hM hM2 HF hN HC HSO
   go_wp2_with fail
   refine HS.out.mono ?_
   rintro e w' ⟨rfl,hO2,hg⟩
   have hQ:Hid (RiseQ f p w (.returned u5) w'):=Lib.hid ⟨u5,_,rfl,ownsRow_less hO2 (by omega),⟨hR.out,HKL.out⟩,hB.out.grown hg (by have:=hB.out.size;omega) (fun k hk=>by have:=(hO.out.lt k hk).1;omega)⟩
   go_wp2
   go_ret
   exact hQ.out
  ·intro x c klx d0 pl0 w1 cnt1 hkey hlx _ hat hrg1 hlt hg1 hs1 hen
   obtain⟨x',ex,rfl,hxs⟩:=string_of_keyOf Tryz.underlying9 hkey
   cases ex
   have hB1:Hid (Below w.heap.size w w1):=Lib.hid (hB.out.grown hg1 (by have:=hB.out.size;omega) (fun k hk=>by cases hk;omega))
   have hO1:Hid (OwnS w1 (w.heap.size+1) u5 ks):=Lib.hid (hO.out.kept hg1 (Or.inr fun e=>by have:=(hO.out.lt _ e).1;omega))
   have hhas:has D (kl x)=true:=by
    cases e:has D (kl x)with
    |true=>rfl
    |false=>have h1:=hat (.held .nilIface);have h2:=hat .nil;rw[show Lit.string x.data.toList=kl x from rfl,atKey_of_not_has e]at h1 h2;rw[←h1]at h2;cases h2
   have hnot:x ∉ ks:=fun hx=>by have:=((hM.out x).1 hx).2.1;rw[show kl x=Lit.string x.data.toList from rfl,hlx]at this;cases this
   have hcall:=Lib.hid (HC.out x w1 hB1.out)
   have hlen1:cnt1+(ks.length+1)≤1000000:=by omega
   have hNX:=Lib.hid (show (ks++[x]).Nodup from List.nodup_append.2 ⟨hN.out,by simp,fun a ha b hb e=>by simp at hb;subst hb;subst e;exact hnot ha⟩)
   have hstay:Hid (p x=false→∀s,s∈ks↔(has D (kl s)=true∧(left (kl s) && !(kl s).sameKey (kl x))=false∧p s=true)):=Lib.hid fun hpx s=>by
    rw[hM.out s]
    by_cases e:s=x
    ·subst e
     rw[hpx]
     simp
    ·have:(kl s).sameKey (kl x)=false:=by
      cases h:(kl s).sameKey (kl x)with
      |false=>rfl
      |true=>exact absurd (kl_inj (WideAt.sameKey_eq h)) e
     rw[this]
     simp
   have hmore:Hid (p x=true→∀s,s∈ks++[x]↔(has D (kl s)=true∧(left (kl s) && !(kl s).sameKey (kl x))=false∧p s=true)):=Lib.hid fun hpx s=>by
    rw[List.mem_append,hM.out s,List.mem_singleton]
    by_cases e:s=x
    ·subst e
     rw[WideAt.sameKey_self (kl_key s),hhas,hpx]
     simp
    ·have:(kl s).sameKey (kl x)=false:=by
      cases h:(kl s).sameKey (kl x)with
      |false=>rfl
      |true=>exact absurd (kl_inj (WideAt.sameKey_eq h)) e
     rw[this]
     simp[e]
   clear hM hhas hnot hcnt hat HF
   cases hpx:p x with
   |false =>
    rw[hpx]at hcall
    go_wp2_with fail
    refine hcall.out.mono ?_
    rintro e w' ⟨rfl,rfl⟩
    go_wp2
    go_roundw
    case rel=>exact⟨_,cnt1,ks,hrg1,hB1,hO1,hN,by omega,Lib.hid (hstay.out hpx)⟩
    case measure=>rw[hrg1.left_eq,hrg.left_eq];exact hlt
   |true =>
    rw[hpx]at hcall
    go_wp2_with fail
    refine hcall.out.mono ?_
    rintro e w' ⟨rfl,rfl⟩
    go_wp2_with (first | (at_builtin;refine wpList_str rfl (.tmp 16) (.tmp 18) rfl w1 (w.heap.size+1) u5 ks x rfl rfl hO1.out (congrArg (fun k=>Value.slice (some ⟨k,0,none⟩) 1 1) hs1.symm) (by omega) (by have:=hrg1.lt;omega) ?_;intro v' w2 hO2 hg2 hb2) | go_in)
    have hne1:some b≠u5.ownBlock:=fun e=>by have:=(hO1.out.lt b e.symm).1;omega
    have hne2:some w.heap.size≠u5.ownBlock:=fun e=>by have:=(hO1.out.lt _ e.symm).1;omega
    have hrg2:=hrg1.kept hg2 hne1 hne2
    have hB2:Hid (Below w.heap.size w w2):=Lib.hid (hB1.out.trans (hb2.mono (by omega)))
    go_roundw
    case rel=>exact⟨_,cnt1,_,hrg2,hB2,Lib.hid hO2,hNX,by rw[List.length_append];exact hlen1,Lib.hid (hmore.out hpx)⟩
    case measure=>rw[hrg2.left_eq,hrg.left_eq];exact hlt
end Go.Proofs.YtlogjpmdfimgdaaGreatDoor
namespace Go.Own
open Go
theorem or_low(X b:Nat)(hb:b<256):X*256 ||| b=X*256+b:=by
 have h:=Nat.shiftLeft_add_eq_or_of_lt (i:=8) (b:=b) (by simpa using hb) X
 rw[Nat.shiftLeft_eq]at h
 exact h.symm
theorem of64(n:Nat):(BitVec.ofInt 64 (n:Int)).toNat=n%18446744073709551616:=by
 simp
theorem or_u64(V b:Nat)(hV:V<72057594037927936)(hb:b<256):bits BinOp.or IntKind.u64 (IntKind.u64.wrap ((V:Int)*256)) (IntKind.u64.wrap (b:Int))=((V*256+b:Nat):Int):=by
 have e1:IntKind.u64.wrap ((V:Int)*256)=((V*256:Nat):Int):=by simp[IntKind.wrap,IntKind.bits,IntKind.signed];omega
 have e2:IntKind.u64.wrap (b:Int)=(b:Int):=by simp[IntKind.wrap,IntKind.bits,IntKind.signed];omega
 rw[e1,e2]
 show IntKind.u64.wrap ((BitVec.ofInt 64 ((V*256:Nat):Int) ||| BitVec.ofInt 64 (b:Int)).toNat:Int)=_
 rw[BitVec.toNat_or,of64,of64,Nat.mod_eq_of_lt (by omega),Nat.mod_eq_of_lt (by omega),or_low V b hb]
 have hz:V*256+b<18446744073709551616:=by omega
 clear e1 e2
 generalize V*256+b=z at *
 simp[IntKind.wrap,IntKind.bits,IntKind.signed]
 omega
theorem wrap_s64(n:Nat)(h:n<18446744073709551616):IntKind.i64.wrap (n:Int)=s64 n:=by
 have e:(n:Int)%2 ^ IntKind.i64.bits=n:=Int.emod_eq_of_lt (by omega) (by show (n:Int)<18446744073709551616;omega)
 simp only[IntKind.wrap,e]
 unfold s64 two63 two64
 by_cases h1:n<9223372036854775808
 ·rw[if_pos h1,if_neg]
  intro h2
  have h3:(9223372036854775808:Int)≤(n:Int):=by
   rw[Bool.and_eq_true,decide_eq_true_eq]at h2
   exact h2.2
  omega
 ·rw[if_neg h1,if_pos]
  ·rfl
  ·have h3:(9223372036854775808:Int)≤(n:Int):=by omega
   show (true&&decide ((9223372036854775808:Int)≤(n:Int)))=true
   simp[h3]
end Go.Own
namespace Go.Proofs.YtlogjpmdfimgdaaGreatDoor
open Go.RowKit Go.Own
def itClone_ren:Go.Shelf.Ren:=⟨fun | 316=>101 | n=>n,fun | 37=>140 | 127=>209 | n=>n,fun | n=>n⟩
theorem itClone:Go.Proofs.LaysM.n316 Tryz.prog itClone_ren:={
 mixed:=by kernel_rfl
 f316:=Tryz.func101.trans (congrArg some (by kernel_rfl))
 t0:=Tryz.underlying0
 a0:=Tryz.isAgg0
 z0:=Tryz.sizeOf0
 v0:=Tryz.zeroValue0
 t3:=Tryz.underlying3
 a3:=Tryz.isAgg3
 z3:=Tryz.sizeOf3
 v3:=Tryz.zeroValue3
 t4:=Tryz.underlying4
 a4:=Tryz.isAgg4
 z4:=Tryz.sizeOf4
 v4:=Tryz.zeroValue4
 t9:=Tryz.underlying9
 a9:=Tryz.isAgg9
 z9:=Tryz.sizeOf9
 v9:=Tryz.zeroValue9
 t37:=Tryz.underlying140
 a37:=Tryz.isAgg140
 z37:=Tryz.sizeOf140
 v37:=Tryz.zeroValue140
 t127:=Tryz.underlying209
 a127:=Tryz.isAgg209
 z127:=Tryz.sizeOf209
 v127:=Tryz.zeroValue209
 t5:=Tryz.underlying5
 a5:=Tryz.isAgg5
 z5:=Tryz.sizeOf5
 v5:=Tryz.zeroValue5
 i0:=by kernel_rfl
 i3:=by kernel_rfl
 i4:=by kernel_rfl
 i5:=by kernel_rfl
 i9:=by kernel_rfl
 i37:=by kernel_rfl
 i127:=by kernel_rfl }
set_option maxRecDepth 100000 in
theorem clone_any(s:ByteArray)(hs:s.size≤281474976710656)(w:World):Calls Tryz.prog 70 #[.string s] w fun e w'=>e=.returned (.string s)∧Below w.heap.size w w':=by
 have HC:Hid (Calls Tryz.prog 101 #[.string s] w fun e w'=>e=.returned (.string s)∧Below w.heap.size w w'):=Lib.hid (Any.stringslite_Clone itClone s w hs)
 go_enter Tryz.func70,Tryz.ntmps70
 go_wp2_with fail
 refine HC.out.mono ?_
 rintro e w' ⟨rfl,hb⟩
 replace hb:=Lib.hid hb
 go_wp2
 go_ret
 exact⟨rfl,hb.out⟩
def Box(w:World)(B:Nat)(s:ByteArray):Prop:=w.heap[B]?=some (.cells #[.string s] 9 (0,0))
theorem Box.lt{w:World}{B:Nat}{s:ByteArray}(h:Box w B s):B<w.heap.size:=(Array.getElem?_eq_some_iff.1 h).1
theorem Box.below{w w':World}{B:Nat}{s:ByteArray}(h:Box w B s)(hb:Below w.heap.size w w'):Box w' B s:=(hb.block B h.lt).trans h
theorem box_new(w:World)(s:ByteArray):Box (w.alloc (.cells #[.string s] 9)) w.heap.size s:=heap_alloc_new w _
set_option maxRecDepth 100000 in
theorem taker_any(s:ByteArray)(w:World):Calls Tryz.prog 76 #[.string s] w fun e w'=>e=.returned (.func (.func 114) #[] #[.pointer (some ⟨w.heap.size,0,none⟩)])∧w.alloc (.cells #[.string s] 9)=w':=by
 go_enter Tryz.func76,Tryz.ntmps76
 go_wp2
 go_ret
 exact⟨rfl,rfl⟩
theorem grown_refl(w:World)(row:Option Nat):w.grownBy w row:=⟨rfl,rfl,rfl,Nat.le_refl _,fun _ _ _=>rfl⟩
set_option maxRecDepth 100000 in
set_option maxHeartbeats 1000000 in
theorem take_no(B n:Nat)(s:ByteArray)(hs:s.size<n)(w:World)(hB:Box w B s) :
  Calls Tryz.prog 114 #[.int .i64 (n:Int),.pointer (some ⟨B,0,none⟩)] w fun e w'=>e=.returned (.tuple #[.string { data:=#[] },.bool false])∧w=w':=by
 have c0:=cell_of_one hB
 have d1:decide ((s.size:Int)<(n:Int))=true:=by simp;omega
 clear hB
 go_enter Tryz.func114,Tryz.ntmps114
 go_wp2
 go_ret2
 exact⟨rfl,rfl⟩
set_option maxRecDepth 100000 in
set_option maxHeartbeats 1000000 in
theorem take_yes(B n:Nat)(s:ByteArray)(hs:n≤s.size)(w:World)(hB:Box w B s) :
  Calls Tryz.prog 114 #[.int .i64 (n:Int),.pointer (some ⟨B,0,none⟩)] w fun e w'=>e=.returned (.tuple #[.string (s.extract 0 n),.bool true])∧Box w' B (s.extract n s.size)∧w.grownBy w' (some B):=by
 have c0:=cell_of_one hB
 have f0:=free_of_one hB
 have d1:decide ((s.size:Int)<(n:Int))=false:=by simp;omega
 have HB:=Lib.hid hB
 clear hB
 go_enter Tryz.func114,Tryz.ntmps114
 go_wp2
 go_ret2
 refine⟨rfl,one_setCell HB.out,?_⟩
 exact⟨rfl,rfl,rfl,by simp,fun k hk hne=>by
  rw[Below.heap_setCell _ _ _ _ (fun e=>hne (by rw[e]))]⟩
theorem ext_take(t:List Nat)(n:Nat):(mkS t).extract 0 n=mkS (t.take n):=by
 apply ByteArray.ext
 simp[mkS,List.map_take]
theorem ext_drop(t:List Nat)(n:Nat):(mkS t).extract n (mkS t).size=mkS (t.drop n):=by
 apply ByteArray.ext
 simp[mkS,List.map_drop,ByteArray.size]
 exact List.take_of_length_le (by simp)
theorem take_ok(B n:Nat)(t:List Nat)(hs:n≤t.length)(w:World)(hB:Box w B (mkS t)) :
  Calls Tryz.prog 114 #[.int .i64 (n:Int),.pointer (some ⟨B,0,none⟩)] w fun e w'=>e=.returned (.tuple #[.string (mkS (t.take n)),.bool true])∧Box w' B (mkS (t.drop n))∧w.grownBy w' (some B):=by
 have h:=take_yes B n (mkS t) (by rw[mkS_size];exact hs) w hB
 rw[ext_take,ext_drop]at h
 exact h
set_option maxRecDepth 100000 in
theorem gi_mkS(l:List Nat)(i:Nat)(hi:i<l.length)(h:∀c∈l,c<256)(W:World):(Instr.index 9 (.string (mkS l)) (.int .i64 (i:Int))).run Tryz.prog W=.ok (.int .u8 ((gi l i:Nat):Int)) W:=by
 have hz:i<(mkS l).size:=by rw[mkS_size];exact hi
 have:=run_index_string (P:=Tryz.prog) W 9 (mkS l) .i64 (i:Int) Tryz.underlying9
 rw[dif_pos ⟨by omega,by omega⟩]at this
 rw[this]
 congr 3
 have e:gi l i=l[i]:=by simp[gi,hi]
 have e2:(mkS l)[i]=UInt8.ofNat l[i]:=by
  show (mkS l).data[i]'_=_
  simp[mkS]
 rw[e]
 have e3:((i:Int).toNat)=i:=by simp
 simp only[e3,e2]
 have:=h _ (List.getElem_mem hi)
 simp
 omega
theorem val_step(l:List Nat)(i:Nat)(hi:i<l.length):val (l.take (i+1))=val (l.take i)*256+gi l i:=by
 have e:l.take (i+1)=l.take i++[gi l i]:=by
  rw[List.take_add_one]
  simp[gi,hi]
 rw[e,val_snoc]
set_option maxRecDepth 100000 in
set_option maxHeartbeats 1000000 in
theorem num_no(B k:Nat)(s:ByteArray)(hs:s.size<k)(w:World)(hB:Box w B s) :
  Calls Tryz.prog 115 #[.func (.func 114) #[] #[.pointer (some ⟨B,0,none⟩)],.int .i64 (k:Int)] w fun e w'=>e=.returned (.tuple #[.int .u64 0,.bool false])∧w=w':=by
 have HT:=Lib.hid (take_no B k s hs w hB)
 clear hB
 go_enter Tryz.func115,Tryz.ntmps115
 go_wp2_with (go_at_call 114;fail)
 refine HT.out.mono ?_
 rintro e w' ⟨rfl,rfl⟩
 go_wp2
 go_loop [8,18] (fun a i=>a=.int .u64 0∧i=.int .i64 0) (fun _ _=>0)
 case atStart=>exact⟨rfl,rfl⟩
 case round =>
  obtain⟨rfl,rfl⟩:=hrel
  go_wp2
  go_ret2
  exact⟨rfl,rfl⟩
set_option maxRecDepth 100000 in
set_option maxHeartbeats 1000000 in
theorem num_yes(B k:Nat)(t:List Nat)(hb:∀c∈t,c<256)(hk:k≤8)(hs:k≤t.length)(w:World)(hB:Box w B (mkS t)) :
  Calls Tryz.prog 115 #[.func (.func 114) #[] #[.pointer (some ⟨B,0,none⟩)],.int .i64 (k:Int)] w fun e w'=>e=.returned (.tuple #[.int .u64 ((val (t.take k):Nat):Int),.bool true])∧Box w' B (mkS (t.drop k))∧w.grownBy w' (some B):=by
 have HT:=Lib.hid (take_ok B k t hs w hB)
 obtain⟨l,hl⟩:∃l,t.take k=l:=⟨_,rfl⟩
 have hll:l.length=k:=by rw[←hl,List.length_take];omega
 have hlb:∀c∈l,c<256:=fun c hc=>hb c (by rw[←hl]at hc;exact List.mem_of_mem_take hc)
 rw[hl]at HT ⊢
 have hz:(mkS l).size=k:=by rw[mkS_size,hll]
 obtain⟨q,hq⟩:∃q,mkS l=q:=⟨_,rfl⟩
 have HQ:Hid (mkS l=q):=Lib.hid hq
 rw[hq]at HT hz
 have HLL:=Lib.hid hll
 have HLB:=Lib.hid hlb
 have HQZ:=Lib.hid hz
 clear hB hl hll hlb hb hq hz
 go_enter Tryz.func115,Tryz.ntmps115
 go_wp2_with (go_at_call 114;fail)
 refine HT.out.mono ?_
 rintro e w1 ⟨rfl,hb1,hg1⟩
 have HB1:=Lib.hid hb1
 have HG1:=Lib.hid hg1
 clear hb1 hg1
 have hz:=HQZ.out
 go_wp2
 clear hz
 go_loop [8,18] (fun a i=>∃j:Nat,j≤k∧i=.int .i64 (j:Int)∧a=.int .u64 ((val (l.take j):Nat):Int)) (fun _ i=>k-(intOf i).toNat)
 case atStart=>exact⟨0,Nat.zero_le _,rfl,rfl⟩
 case round =>
  obtain⟨j,hj,rfl,rfl⟩:=hrel
  by_cases hlt:j<k
  ·have hix:=fun W=>gi_mkS l j (by rw[HLL.out];exact hlt) HLB.out W
   rw[HQ.out]at hix
   have hb:=HLB.out
   have hgb:gi l j<256:=by
    have:gi l j=l[j]'(by rw[HLL.out];exact hlt):=by simp[gi,HLL.out,hlt]
    rw[this];exact hb _ (List.getElem_mem _)
   have hv:val (l.take j)<72057594037927936:=by
    have h1:=val_lt (l.take j) (fun c hc=>hb c (List.mem_of_mem_take hc))
    have h2:(l.take j).length=j:=by rw[List.length_take,HLL.out];omega
    rw[h2]at h1
    exact Nat.lt_of_lt_of_le h1 (Nat.pow_le_pow_right (by omega) (by omega:j≤7))
   have HO:=Lib.hid (or_u64 _ _ hv hgb)
   have HS:=Lib.hid (val_step l j (by rw[HLL.out];exact hlt))
   clear hb hgb hv
   go_wp2
   go_round
   case rel=>exact⟨j+1,by omega,by go_num,by rw[HO.out,HS.out]⟩
   case measure=>simp[intOf];omega
  ·obtain rfl:j=k:=by omega
   have HF:Hid (val (l.take j)=val l):=Lib.hid (by rw[List.take_of_length_le (by rw[HLL.out];exact Nat.le_refl _)])
   go_wp2
   go_ret2
   exact⟨by rw[←HF.out];rfl,HB1.out,HG1.out⟩
end Go.Proofs.YtlogjpmdfimgdaaGreatDoor
namespace Go.Proofs.YtlogjpmdfimgdaaGreatDoor
open Go.RowKit Go.Own
theorem fewV_eq(k n:Int)(s:ByteArray)(b:Bool)(l:List V)(d:Nat) :
  fewV (.mk k n s b l) d=(!(decide (10<d)||decide (70000<s.size)||decide (300<l.length)||(decide (1<d)&&decide (5<l.length)))&&l.all (fewV · (d+1))):=by
 rw[fewV,fewVs_all]
theorem few_cases(k n:Int)(s:ByteArray)(b:Bool)(l:List V)(d:Nat) :
  (fewV (.mk k n s b l) d=false∧10<d)∨(fewV (.mk k n s b l) d=false∧d≤10∧70000<s.size)∨(fewV (.mk k n s b l) d=false∧d≤10∧s.size≤70000∧300<l.length) ∨
   (fewV (.mk k n s b l) d=false∧d≤10∧s.size≤70000∧l.length≤300∧1<d∧5<l.length)∨(d≤10∧s.size≤70000∧l.length≤300∧d≤1∧fewV (.mk k n s b l) d=l.all (fewV · (d+1))) ∨
   (d≤10∧s.size≤70000∧l.length≤300∧1<d∧l.length≤5∧fewV (.mk k n s b l) d=l.all (fewV · (d+1))):=by
 rw[fewV_eq]
 by_cases h1:10<d
 ·exact Or.inl ⟨by simp[h1],h1⟩
 by_cases h2:70000<s.size
 ·exact Or.inr (Or.inl ⟨by simp[h2],by omega,h2⟩)
 by_cases h3:300<l.length
 ·exact Or.inr (Or.inr (Or.inl ⟨by simp[h3],by omega,by omega,h3⟩))
 by_cases h4:1<d
 ·by_cases h5:5<l.length
  ·exact Or.inr (Or.inr (Or.inr (Or.inl ⟨by simp[h4,h5],by omega,by omega,by omega,h4,h5⟩)))
  ·refine Or.inr (Or.inr (Or.inr (Or.inr (Or.inr ⟨by omega,by omega,by omega,h4,by omega,?_⟩))))
   simp[h1,h2,h3,h5]
 ·refine Or.inr (Or.inr (Or.inr (Or.inr (Or.inl ⟨by omega,by omega,by omega,by omega,?_⟩))))
  simp[h1,h2,h3,h4]
def FewQ(b:Bool)(w:World)(e:Ending)(w':World):Prop:=e=.returned (.bool b)∧Below w.heap.size w w'
set_option maxRecDepth 100000 in
set_option maxHeartbeats 1000000 in
theorem few_any(x:V):∀(d:Nat) (v:Value) (w:World),d≤11→Holds w v x→Calls Tryz.prog 22 #[v,.int .i64 (d:Int)] w (FewQ (fewV x d) w):=by
 induction x using V.ind with
 |h k n s b l ih =>
  intro d v w hd hv
  obtain⟨p,cap,hp⟩:=VAt.parts hv
  have hcs:=few_cases k n s b l d
  obtain⟨rfl,_,_,hs,hle,hcap,hsub⟩:=hp
  obtain⟨m,hm⟩:∃m,l.length=m:=⟨_,rfl⟩
  rw[hm]at hcs hle ⊢
  have HM:=Lib.hid hm
  have HI:=Lib.hid ih
  have HSUB:=Lib.hid hsub
  clear hm hv ih hsub
  rcases hcs with⟨hf,h1⟩ | ⟨hf,h1,h2⟩ | ⟨hf,h1,h2,h3⟩ | ⟨hf,h1,h2,h3,h4,h5⟩ | ⟨h1,h2,h3,h4,hf⟩ | ⟨h1,h2,h3,h4,h5,hf⟩
  all_goals
   have HF:=Lib.hid hf
   clear hf
   try have d1:decide ((10:Int)<(d:Int))=true:=by simp;omega
   try have d1:decide ((10:Int)<(d:Int))=false:=by simp;omega
   try have d2:decide ((70000:Int)<(s.size:Int))=true:=by simp;omega
   try have d2:decide ((70000:Int)<(s.size:Int))=false:=by simp;omega
   try have d3:decide ((300:Int)<(m:Int))=true:=by simp;omega
   try have d3:decide ((300:Int)<(m:Int))=false:=by simp;omega
   try have d4:decide ((1:Int)<(d:Int))=true:=by simp;omega
   try have d4:decide ((1:Int)<(d:Int))=false:=by simp;omega
   try have d5:decide ((5:Int)<(m:Int))=true:=by simp;omega
   try have d5:decide ((5:Int)<(m:Int))=false:=by simp;omega
   go_enter Tryz.func22,Tryz.ntmps22
   go_wp2
  ·go_ret
   exact⟨by rw[HF.out];rfl,(Below.refl _ w).alloc (Nat.le_refl _) _⟩
  ·go_ret
   exact⟨by rw[HF.out];rfl,(Below.refl _ w).alloc (Nat.le_refl _) _⟩
  ·go_ret
   exact⟨by rw[HF.out];rfl,(Below.refl _ w).alloc (Nat.le_refl _) _⟩
  ·go_ret
   exact⟨by rw[HF.out];rfl,(Below.refl _ w).alloc (Nat.le_refl _) _⟩
  all_goals
   have HW0:Hid (Below w.heap.size w (w.alloc (.cells #[.int .i64 k,.int .i64 n,.string s,.bool b,.slice p m cap] 59))):=Lib.hid ((Below.refl _ w).alloc (Nat.le_refl _) _)
   have HC4:Hid ((w.alloc (.cells #[.int .i64 k,.int .i64 n,.string s,.bool b,.slice p m cap] 59)).cell? ⟨w.heap.size,4,none⟩=some (.slice p m cap)):=Lib.hid (cell_new _ _ _ _)
   have HZ0:Hid ((w.alloc (.cells #[.int .i64 k,.int .i64 n,.string s,.bool b,.slice p m cap] 59)).heap.size=w.heap.size+1):=Lib.hid (by simp)
   generalize w.alloc (.cells #[.int .i64 k,.int .i64 n,.string s,.bool b,.slice p m cap] 59)=W0 at *
   go_loopw [5] (fun i wr=>∃j:Nat,j≤m∧i=.int .i64 (j:Int)∧Hid (∀x∈l.take j,fewV x (d+1)=true)∧Hid (Below (w.heap.size+1) W0 wr)) (fun i _=>m-(intOf i).toNat)
   case atStart=>exact⟨0,Nat.zero_le _,rfl,Lib.hid (fun x hx=>by simp at hx),Lib.hid (Below.refl _ _)⟩
   case round =>
    obtain⟨j,hj,rfl,HJ,HB⟩:=hrel
    have c4:wr.cell? ⟨w.heap.size,4,none⟩=some (.slice p m cap):=by rw[HB.out.cell (p:=⟨w.heap.size,4,none⟩) (by simp)];exact HC4.out
    have HBW:Hid (Below w.heap.size w wr):=Lib.hid (HW0.out.trans (HB.out.mono (by omega)))
    have hzr:w.heap.size+1≤wr.heap.size:=by have:=HB.out.size;rw[HZ0.out]at this;exact this
    by_cases hlt:j<m
    ·obtain⟨x,hx⟩:∃x,l[j]?=some x:=⟨_,List.getElem?_eq_getElem (by rw[HM.out];exact hlt)⟩
     obtain⟨g,o,u0,u1,u2,u3,u4,rfl,_,hg,hvx,e0,e1,e2,e3,e4⟩:=HSUB.out j x hx
     have hk:∀i,wr.cell? ⟨g,i,none⟩=w.cell? ⟨g,i,none⟩:=fun i=>HBW.out.cell (p:=⟨g,i,none⟩) hg
     rw[←hk]at e0 e1 e2 e3 e4
     have HC:Hid (Calls Tryz.prog 22 #[.agg #[u0,u1,u2,u3,u4],.int .i64 ((d:Int)+1)] wr (FewQ (fewV x (d+1)) wr)) :=
      Lib.hid (HI.out x (List.mem_of_getElem? hx) (d+1) _ wr (by omega) (Holds.below hvx.holds HBW.out))
     clear hk hvx
     cases hfx:fewV x (d+1)with
     |false =>
      have HZ:Hid (fewV (.mk k n s b l) d=false):=Lib.hid (by
       rw[HF.out,List.all_eq_false]
       exact⟨x,List.mem_of_getElem? hx,by simp[hfx]⟩)
      rw[hfx]at HC
      clear hx hfx
      go_wp2_with (go_at_call 22;fail)
      refine HC.out.mono ?_
      rintro e w1 ⟨rfl,hb1⟩
      replace hb1:=Lib.hid hb1
      go_wp2
      go_ret
      exact⟨by rw[HZ.out];rfl,HBW.out.trans (hb1.out.mono (by omega))⟩
     |true =>
      have HJ1:Hid (∀y∈l.take (j+1),fewV y (d+1)=true):=Lib.hid (by
       intro y hy
       rw[List.take_add_one,hx]at hy
       rcases List.mem_append.1 hy with h | h
       ·exact HJ.out y h
       ·simp at h;rw[h];exact hfx)
      rw[hfx]at HC
      clear hx hfx
      go_wp2_with (go_at_call 22;fail)
      refine HC.out.mono ?_
      rintro e w1 ⟨rfl,hb1⟩
      have HB1:Hid (Below (w.heap.size+1) W0 w1):=Lib.hid (HB.out.trans (hb1.mono hzr))
      clear hb1
      go_wp2
      go_roundw
      case rel=>exact⟨j+1,by omega,by go_num,HJ1,HB1⟩
      case measure=>simp[intOf];omega
    ·obtain rfl:j=m:=by omega
     have HT:Hid (fewV (.mk k n s b l) d=true):=Lib.hid (by
      rw[HF.out,List.all_eq_true]
      intro x hx
      exact HJ.out x (by rw[List.take_of_length_le (by rw[HM.out];exact Nat.le_refl _)];exact hx))
     go_wp2
     go_ret
     exact⟨by rw[HT.out];rfl,HBW.out⟩
end Go.Proofs.YtlogjpmdfimgdaaGreatDoor
namespace Go.Proofs.YtlogjpmdfimgdaaGreatDoor
open Go.RowKit Go.Own
def NewA(a:A)(w:World)(e:Ending)(w':World):Prop:=∃r,e=.returned r∧AAt w' (fun b=>w.heap.size≤b) r a∧Below w.heap.size w w'
theorem fewV_parts{k n:Int}{s:ByteArray}{b:Bool}{l:List V}{d:Nat}(h:fewV (.mk k n s b l) d=true):s.size≤70000∧l.length≤300∧∀x∈l,fewV x (d+1)=true:=by
 rcases few_cases k n s b l d with⟨hf,_⟩ | ⟨hf,_⟩ | ⟨hf,_⟩ | ⟨hf,_⟩ | ⟨h1,h2,h3,h4,hf⟩ | ⟨h1,h2,h3,h4,h5,hf⟩
 ·rw[h]at hf;cases hf
 ·rw[h]at hf;cases hf
 ·rw[h]at hf;cases hf
 ·rw[h]at hf;cases hf
 ·rw[hf,List.all_eq_true]at h;exact⟨h2,h3,h⟩
 ·rw[hf,List.all_eq_true]at h;exact⟨h2,h3,h⟩
theorem take_snoc{l:List A}{j:Nat}{x:A}(h:l[j]?=some x):l.take (j+1)=l.take j++[x]:=by
 rw[List.take_add_one,h];rfl
theorem kinds(k:Int):k=1∨k=2∨k=3∨k=4∨(k≠1∧k≠2∧k≠3∧k≠4):=by omega
set_option maxRecDepth 100000 in
set_option maxHeartbeats 1000000 in
theorem of_any(x:V):∀(d:Nat) (v:Value) (w:World),fewV x d=true→Holds w v x→Calls Tryz.prog 20 #[v] w (NewA (ofV x) w):=by
 induction x using V.ind with
 |h k n s b l ih =>
  intro d v w hf hv
  obtain⟨p,cap,hp⟩:=VAt.parts hv
  obtain⟨hf1,hf2,hf3⟩:=fewV_parts hf
  obtain⟨rfl,_,hn,hs,hle,hcap,hsub⟩:=hp
  clear hf
  rcases kinds k with rfl | rfl | rfl | rfl | ⟨k1,k2,k3,k4⟩
  ·have HE:Hid (ofV (.mk 1 n s b l)=.num n):=Lib.hid (by simp[ofV])
   have HN:=Lib.hid hn
   clear hv ih hsub hf3 hn
   go_enter Tryz.func20,Tryz.ntmps20
   go_wp2
   go_ret
   exact⟨_,rfl,by rw[HE.out];exact .num n HN.out,(Below.refl _ w).alloc (Nat.le_refl _) _⟩
  ·have HE:Hid (ofV (.mk 2 n s b l)=.str s):=Lib.hid (by simp[ofV])
   clear hv ih hsub hf3 hn
   go_enter Tryz.func20,Tryz.ntmps20
   go_wp2
   go_ret
   exact⟨_,rfl,by rw[HE.out];exact .str s hs,(Below.refl _ w).alloc (Nat.le_refl _) _⟩
  ·have HE:Hid (ofV (.mk 3 n s b l)=.bool b):=Lib.hid (by simp[ofV])
   clear hv ih hsub hf3 hn
   go_enter Tryz.func20,Tryz.ntmps20
   go_wp2
   go_ret
   exact⟨_,rfl,by rw[HE.out];exact .bool b,(Below.refl _ w).alloc (Nat.le_refl _) _⟩
  ·have HE:Hid (ofV (.mk 4 n s b l)=.list (l.map ofV)):=Lib.hid (by simp[ofV,ofVs_map])
   obtain⟨m,hm⟩:∃m,l.length=m:=⟨_,rfl⟩
   rw[hm]at hle hf2 ⊢
   have HM:=Lib.hid hm
   have HI:=Lib.hid ih
   have HSUB:=Lib.hid hsub
   have HF3:=Lib.hid hf3
   clear hv ih hsub hf3 hn hm
   go_enter Tryz.func20,Tryz.ntmps20
   go_wp2
   have HW0:Hid (Below w.heap.size w (w.alloc (.cells #[.int .i64 4,.int .i64 n,.string s,.bool b,.slice p m cap] 59))):=Lib.hid ((Below.refl _ w).alloc (Nat.le_refl _) _)
   have HC4:Hid ((w.alloc (.cells #[.int .i64 4,.int .i64 n,.string s,.bool b,.slice p m cap] 59)).cell? ⟨w.heap.size,4,none⟩=some (.slice p m cap)):=Lib.hid (cell_new _ _ _ _)
   have HZ0:Hid ((w.alloc (.cells #[.int .i64 4,.int .i64 n,.string s,.bool b,.slice p m cap] 59)).heap.size=w.heap.size+1):=Lib.hid (by simp)
   generalize w.alloc (.cells #[.int .i64 4,.int .i64 n,.string s,.bool b,.slice p m cap] 59)=W0 at *
   go_loopw [3,4] (fun o i wr=>∃j:Nat,j≤m∧i=.int .i64 (j:Int)∧Hid (RowA wr (w.heap.size+1) o ((l.map ofV).take j))∧Hid (Below (w.heap.size+1) W0 wr)) (fun _ i _=>m-(intOf i).toNat)
   case atStart =>
    refine⟨0,Nat.zero_le _,rfl,Lib.hid ?_,Lib.hid ?_⟩
    ·have h:=RowA.made (w:=W0) (B:=w.heap.size+1) (by rw[HZ0.out];omega) #[] 0 (by omega) rfl
     rw[HZ0.out]at h
     simpa using h
    ·exact(Below.refl _ _).alloc (by rw[HZ0.out];omega) _
   case round =>
    obtain⟨j,hj,rfl,HR,HB⟩:=hrel
    have c4:wr.cell? ⟨w.heap.size,4,none⟩=some (.slice p m cap):=by rw[HB.out.cell (p:=⟨w.heap.size,4,none⟩) (by simp)];exact HC4.out
    have HBW:Hid (Below w.heap.size w wr):=Lib.hid (HW0.out.trans (HB.out.mono (by omega)))
    have hzr:w.heap.size+1≤wr.heap.size:=by have:=HB.out.size;rw[HZ0.out]at this;exact this
    have HLJ:Hid (((l.map ofV).take j).length=j):=Lib.hid (by rw[List.length_take,List.length_map,HM.out];omega)
    by_cases hlt:j<m
    ·obtain⟨x,hx⟩:∃x,l[j]?=some x:=⟨_,List.getElem?_eq_getElem (by rw[HM.out];exact hlt)⟩
     obtain⟨g,o,t0,t1,t2,t3,t4,rfl,_,hg,hvx,e0,e1,e2,e3,e4⟩:=HSUB.out j x hx
     have hk:∀i,wr.cell? ⟨g,i,none⟩=w.cell? ⟨g,i,none⟩:=fun i=>HBW.out.cell (p:=⟨g,i,none⟩) hg
     rw[←hk]at e0 e1 e2 e3 e4
     have HC:Hid (Calls Tryz.prog 20 #[.agg #[t0,t1,t2,t3,t4]] wr (NewA (ofV x) wr)) :=
      Lib.hid (HI.out x (List.mem_of_getElem? hx) (d+1) _ wr (HF3.out x (List.mem_of_getElem? hx)) (Holds.below hvx.holds HBW.out))
     have HX:Hid ((l.map ofV).take (j+1)=(l.map ofV).take j++[ofV x]):=Lib.hid (take_snoc (by simp[hx]))
     obtain⟨y,hy⟩:∃y,ofV x=y:=⟨_,rfl⟩
     rw[hy]at HC HX
     clear hk hvx hx hy
     have hbl:=HR.out.lt
     go_wp2_with (go_at_call 20;fail)
     refine HC.out.mono ?_
     rintro e w1 ⟨r,rfl,hr,hb1⟩
     have HR1:=Lib.hid (HR.out.below hb1)
     have HB1:Hid (Below (w.heap.size+1) W0 w1):=Lib.hid (HB.out.trans (hb1.mono hzr))
     have hz1r:wr.heap.size≤w1.heap.size:=hb1.size
     have HY1:Hid (AAt w1 (fun b=>w.heap.size+1≤b∧u3.ownBlock≠some b) r y):=Lib.hid (hr.keep (fun b hb _=>⟨by omega,fun e=>by have:=(hbl b e).2;omega⟩) (Nat.le_refl _) (fun _ _ _=>rfl))
     have hform:=hr.form
     clear hr hb1 hbl
     rcases hform with⟨ty,u,rfl⟩ | rfl
     all_goals
      go_wp2_with (at_builtin;refine wpList_push rfl (.tmp 32) (.tmp 39) rfl w1 (w.heap.size+1) _ _ y _ rfl rfl HR1.out HY1.out rfl (by rw[HLJ.out];omega) (by omega) ?_)
      intro v2 w2 hr2 hb2
      have HR2:Hid (RowA w2 (w.heap.size+1) v2 ((l.map ofV).take (j+1))):=Lib.hid (by rw[HX.out];exact hr2)
      have HB2:Hid (Below (w.heap.size+1) W0 w2):=Lib.hid (HB1.out.trans hb2)
      clear hr2 hb2
      go_wp2
      go_roundw
      case rel=>exact⟨j+1,by omega,by go_num,HR2,HB2⟩
      case measure=>simp[intOf];omega
    ·obtain rfl:j=m:=by omega
     have HF:Hid (AAt wr (fun b=>w.heap.size+1≤b) (.iface 67 u3) (.list (l.map ofV))):=Lib.hid (by
      have h:=HR.out.has
      rwa [List.take_of_length_le (by rw[List.length_map,HM.out];exact Nat.le_refl _)]at h)
     go_wp2
     go_ret
     exact⟨_,rfl,by rw[HE.out];exact HF.out.keep (fun b hb _=>by omega) (Nat.le_refl _) (fun _ _ _=>rfl),HBW.out⟩
  ·have HE:Hid (ofV (.mk k n s b l)=.none):=Lib.hid (by simp[ofV,k1,k2,k3,k4])
   have e1:(k == 1)=false:=by simp[k1]
   have e2:(k == 2)=false:=by simp[k2]
   have e3:(k == 3)=false:=by simp[k3]
   have e4:(k == 4)=false:=by simp[k4]
   clear hv ih hsub hf3 hn k1 k2 k3 k4
   go_enter Tryz.func20,Tryz.ntmps20
   go_wp2
   go_ret
   exact⟨_,rfl,by rw[HE.out];exact .none,(Below.refl _ w).alloc (Nat.le_refl _) _⟩
end Go.Proofs.YtlogjpmdfimgdaaGreatDoor
namespace Go.Proofs.YtlogjpmdfimgdaaGreatDoor
open Go.RowKit Go.Own
def ReadQ(B:Nat)(r:Option (A×List Nat))(w:World)(e:Ending)(w':World):Prop :=
 (∃a t' v,r=some (a,t')∧e=.returned (.tuple #[v,.bool true])∧AAt w' (fun b=>w.heap.size≤b) v a∧Box w' B (mkS t')∧w.grownBy w' (some B)) ∨
 (r=none∧∃v s,e=.returned (.tuple #[v,.bool false])∧Box w' B s∧w.grownBy w' (some B))
theorem ReadQ.ok{B:Nat}{a:A}{t:List Nat}{v:Value}{w w':World}(h1:AAt w' (fun b=>w.heap.size≤b) v a)(h2:Box w' B (mkS t))(h3:w.grownBy w' (some B)):ReadQ B (some (a,t)) w (.returned (.tuple #[v,.bool true])) w' :=
 Or.inl ⟨a,t,v,rfl,rfl,h1,h2,h3⟩
theorem ReadQ.no{B:Nat}{v:Value}{s:ByteArray}{w w':World}(h2:Box w' B s)(h3:w.grownBy w' (some B)):ReadQ B none w (.returned (.tuple #[v,.bool false])) w' :=
 Or.inr ⟨rfl,v,s,rfl,h2,h3⟩
theorem grown_below{w w1 w2:World}{B B0:Nat}(h:w.grownBy w1 (some B))(hb:Below B0 w1 w2)(h0:w.heap.size≤B0):w.grownBy w2 (some B) :=
 ⟨hb.os.trans h.os,hb.tape.trans h.tape,hb.output.trans h.output,Nat.le_trans h.size hb.size,fun k hk hne=>by
  rw[hb.block k (by omega)];exact h.block k hk hne⟩
theorem grown_two{w w1 w2:World}{B:Nat}(h:w.grownBy w1 (some B))(k:w1.grownBy w2 (some B)):w.grownBy w2 (some B) :=
 ⟨k.os.trans h.os,k.tape.trans h.tape,k.output.trans h.output,Nat.le_trans h.size k.size,fun i hi hne=>by
  rw[k.block i (Nat.lt_of_lt_of_le hi h.size) hne];exact h.block i hi hne⟩
theorem RowA.past{w w':World}{B B0:Nat}{v:Value}{l:List A}(h:RowA w B0 v l)(hg:w.grownBy w' (some B))(hB:B<B0):RowA w' B0 v l:=by
 have hlt:=h.lt
 obtain⟨us,h1,h2⟩:=h
 refine⟨us,h1.kept hg (by
  cases hv:v.ownBlock with
  |none=>exact Or.inl rfl
  |some g=>exact Or.inr (by simp;have:=(hlt g hv).1;omega)),fun i x hx=>?_⟩
 obtain⟨u,hu,ha⟩:=h2 i x hx
 exact⟨u,hu,ha.keep (fun _ h _=>h) hg.size (fun b hb hlt=>hg.block b hlt (by simp;omega))⟩
def textR(t:List Nat):Option (A×List Nat) :=
 if t.length<2 then none else if t.length-2<val (t.take 2)then none else some (.str (mkS ((t.drop 2).take (val (t.take 2)))),(t.drop 2).drop (val (t.take 2)))
set_option maxRecDepth 100000 in
set_option maxHeartbeats 1000000 in
theorem rtext_any(B:Nat)(t:List Nat)(hb:∀c∈t,c<256)(w:World)(hB:Box w B (mkS t)) :
  Calls Tryz.prog 116 #[.func (.func 114) #[] #[.pointer (some ⟨B,0,none⟩)]] w (ReadQ B (textR t) w):=by
 by_cases h:t.length<2
 ·have HE:Hid (textR t=none):=Lib.hid (by rw[textR,if_pos h])
  have HT:=Lib.hid (num_no B 2 (mkS t) (by rw[mkS_size];exact h) w hB)
  have HB:=Lib.hid hB
  clear hB
  go_enter Tryz.func116,Tryz.ntmps116
  go_wp2_with (go_at_call 115;fail)
  refine HT.out.mono ?_
  rintro e w' ⟨rfl,rfl⟩
  go_wp2
  go_ret2
  rw[HE.out]
  exact ReadQ.no HB.out (grown_refl _ _)
 ·have HT:=Lib.hid (num_yes B 2 t hb (by omega) (by omega) w hB)
  have hvl:val (t.take 2)<65536:=by
   have h1:=val_lt (t.take 2) (fun c hc=>hb c (List.mem_of_mem_take hc))
   rw[show (t.take 2).length=2 by rw[List.length_take];omega]at h1
   exact h1
  have HE:Hid (textR t=if t.length-2<val (t.take 2)then none else some (.str (mkS ((t.drop 2).take (val (t.take 2)))),(t.drop 2).drop (val (t.take 2)))):=Lib.hid (by rw[textR,if_neg h])
  obtain⟨n,hn⟩:∃n,val (t.take 2)=n:=⟨_,rfl⟩
  obtain⟨r,hr⟩:∃r,t.drop 2=r:=⟨_,rfl⟩
  have hrl:r.length=t.length-2:=by rw[←hr,List.length_drop]
  rw[hn]at HT HE hvl
  rw[hr]at HT HE
  rw[←hrl]at HE
  clear hB hn hr hrl h
  by_cases h2:r.length<n
  ·have HTN:=Lib.hid (fun w hB=>take_no B n (mkS r) (by rw[mkS_size];exact h2) w hB)
   have HCL:=Lib.hid (clone_any { data:=#[] } (by simp[ByteArray.size]))
   have HE2:Hid (textR t=none):=Lib.hid (by rw[HE.out,if_pos h2])
   clear h2
   go_enter Tryz.func116,Tryz.ntmps116
   go_wp2_with (go_at_call 115;fail)
   refine HT.out.mono ?_
   rintro e w1 ⟨rfl,hb1,hg1⟩
   have HB1:=Lib.hid hb1
   have HG1:=Lib.hid hg1
   clear hb1 hg1
   go_wp2_with (go_at_call 114;fail)
   refine(HTN.out _ HB1.out).mono ?_
   rintro e w' ⟨rfl,rfl⟩
   go_wp2_with (go_at_call 70;fail)
   refine(HCL.out _).mono ?_
   rintro e w2 ⟨rfl,hb2⟩
   have HB2:=Lib.hid (HB1.out.below hb2)
   have HG2:=Lib.hid (grown_below HG1.out hb2 HG1.out.size)
   clear hb2
   go_wp2
   go_ret2
   rw[HE2.out]
   exact ReadQ.no HB2.out HG2.out
  ·have HTY:=Lib.hid (fun w hB=>take_ok B n r (by omega) w hB)
   have HCL:=Lib.hid (clone_any (mkS (r.take n)) (by rw[mkS_size,List.length_take];omega))
   have HE2:Hid (textR t=some (.str (mkS (r.take n)),r.drop n)):=Lib.hid (by rw[HE.out,if_neg h2])
   have HSZ:Hid ((mkS (r.take n)).size≤9223372036854775807):=Lib.hid (by rw[mkS_size,List.length_take];omega)
   obtain⟨q,hq⟩:∃q,mkS (r.take n)=q:=⟨_,rfl⟩
   rw[hq]at HTY HCL HE2 HSZ
   clear h2 hq
   go_enter Tryz.func116,Tryz.ntmps116
   go_wp2_with (go_at_call 115;fail)
   refine HT.out.mono ?_
   rintro e w1 ⟨rfl,hb1,hg1⟩
   have HB1:=Lib.hid hb1
   have HG1:=Lib.hid hg1
   clear hb1 hg1
   go_wp2_with (go_at_call 114;fail)
   refine(HTY.out _ HB1.out).mono ?_
   rintro e w2 ⟨rfl,hb2,hg2⟩
   have HB2:=Lib.hid hb2
   have HG2:=Lib.hid (grown_two HG1.out hg2)
   clear hb2 hg2
   go_wp2_with (go_at_call 70;fail)
   refine(HCL.out _).mono ?_
   rintro e w3 ⟨rfl,hb3⟩
   have HB3:=Lib.hid (HB2.out.below hb3)
   have HG3:=Lib.hid (grown_below HG2.out hb3 HG2.out.size)
   clear hb3
   go_wp2
   go_ret2
   rw[HE2.out]
   exact ReadQ.ok (.str q HSZ.out) HB3.out HG3.out
end Go.Proofs.YtlogjpmdfimgdaaGreatDoor
namespace Go.Proofs.YtlogjpmdfimgdaaGreatDoor
open Go.RowKit Go.Own
theorem rdL_stop{f:List Nat→Option (A×List Nat)}{t:List Nat}(h:f t=none){n j:Nat}(hlt:j<n):rdL f (n-j) t=none:=by
 obtain⟨q,hq⟩:∃q,n-j=q+1:=⟨n-j-1,by omega⟩
 rw[hq,rdL,h]
theorem rdL_go{f:List Nat→Option (A×List Nat)}{t t':List Nat}{x:A}(h:f t=some (x,t')){n j:Nat}(hlt:j<n)(xs:List A) :
  (rdL f (n-j) t).map (fun q=>(xs++q.1,q.2))=(rdL f (n-(j+1)) t').map fun q=>((xs++[x])++q.1,q.2):=by
 obtain⟨q,hq⟩:∃q,n-j=q+1:=⟨n-j-1,by omega⟩
 rw[hq,rdL,h,show n-(j+1)=q by omega]
 simp only
 cases rdL f q t' with
 |none=>rfl
 |some p=>simp
theorem wpList_makeA{ops:Array Oper}{rest:List Oper}{o:Oper}{a:Act}{Q:Exit→Act→World→Prop}{w:World}(hg:o.guard=none)(l c:Operand)(hop:o.op=Op.makeSlice 67 l c)
  (B:Nat) (kl kc:IntKind) (C:Int) (n:Nat) (hl:a.eval l=.int kl 0) (hc:a.eval c=.int kc C) (hC:C=(n:Int)) (hn:n≤1000000) (hB:B≤w.heap.size)
  (hK:∀v w',RowA w' B v []→Below w.heap.size w w'→wpList Tryz.prog ops Q rest (a.put o.dst v) w'):wpList Tryz.prog ops Q (o :: rest) a w:=by
 obtain⟨i0,hi,hz0,hz1,hz2⟩:=info_parts info20
 refine wpList_make_own w hg l c 67 hop B 20 i0 .nilIface 1 Tryz.underlying67 hi hz0 hz1 kl kc C n hl hc hC (by rw[hz2];omega) (by unfold maxLen;omega) hB ?_
 intro w' h1 h2
 exact hK _ w' ⟨[],h1,fun i x hx=>by simp at hx⟩ ⟨h2.os,h2.tape,h2.output,h2.size,fun k hk=>h2.block k hk (by simp)⟩
def ReadNo(B:Nat)(w:World)(e:Ending)(w':World):Prop:=∃v s,e=.returned (.tuple #[v,.bool false])∧Box w' B s∧w.grownBy w' (some B)
set_option maxRecDepth 100000 in
set_option maxHeartbeats 1000000 in
theorem rlist_bad(B:Nat)(t:List Nat)(hb:∀c∈t,c<256)(z:Int)(h:t=[]∨8<z)(w:World)(hB:Box w B (mkS t)) :
  Calls Tryz.prog 117 #[.func (.func 114) #[] #[.pointer (some ⟨B,0,none⟩)],.int .i64 z] w (ReadNo B w):=by
 cases t with
 |nil =>
  have HT:=Lib.hid (num_no B 1 (mkS []) (by rw[mkS_size];exact Nat.zero_lt_one) w hB)
  have HB:=Lib.hid hB
  clear hB h
  go_enter Tryz.func117,Tryz.ntmps117
  go_wp2_with (go_at_call 115;fail)
  refine HT.out.mono ?_
  rintro e w' ⟨rfl,rfl⟩
  go_wp2
  go_ret2
  exact⟨_,_,rfl,HB.out,grown_refl _ _⟩
 |cons n t =>
  have hz:8<z:=by rcases h with h | h;cases h;exact h
  have HT:=Lib.hid (num_yes B 1 (n :: t) hb (by omega) (by simp) w hB)
  have hd:decide (8<z)=true:=by simp[hz]
  clear hB h hz
  go_enter Tryz.func117,Tryz.ntmps117
  go_wp2_with (go_at_call 115;fail)
  refine HT.out.mono ?_
  rintro e w1 ⟨rfl,hb1,hg1⟩
  have HB1:=Lib.hid hb1
  have HG1:=Lib.hid hg1
  clear hb1 hg1
  go_wp2
  go_ret2
  exact⟨_,_,rfl,HB1.out,HG1.out⟩
def ReadsB(m:Nat):Prop:=∀(t:List Nat) (B:Nat) (w:World) (z:Int),(∀c∈t,c<256)→z+m=8→Box w B (mkS t)→Calls Tryz.prog 77 #[.func (.func 114) #[] #[.pointer (some ⟨B,0,none⟩)],.int .i64 z] w (ReadQ B (rd m t) w)
set_option maxRecDepth 100000 in
set_option maxHeartbeats 1000000 in
theorem rlist_any(m:Nat)(hm:m≤8)(ih:ReadsB m)(B:Nat)(n:Nat)(t:List Nat)(hb:∀c∈n :: t,c<256)(z:Int)(hz:z+m=8)(w:World)(hB:Box w B (mkS (n :: t))) :
  Calls Tryz.prog 117 #[.func (.func 114) #[] #[.pointer (some ⟨B,0,none⟩)],.int .i64 z] w (ReadQ B (listR (some (rd m)) (n :: t)) w):=by
 have HT:=Lib.hid (num_yes B 1 (n :: t) hb (by omega) (by simp) w hB)
 have hv:val ((n :: t).take 1)=n:=by simp[val]
 have hdr:(n :: t).drop 1=t:=rfl
 rw[hv,hdr]at HT
 have hd:decide (8<z)=false:=by simp;omega
 have hn:n<256:=hb n (by simp)
 have HTB:Hid (∀c∈t,c<256):=Lib.hid (fun c hc=>hb c (by simp[hc]))
 have HZ:=Lib.hid hz
 have HBL:=hB.lt
 clear hB hb hv hdr hz
 go_enter Tryz.func117,Tryz.ntmps117
 go_wp2_with (go_at_call 115;fail)
 refine HT.out.mono ?_
 rintro e w1 ⟨rfl,hb1,hg1⟩
 have HB1:=Lib.hid hb1
 have HG1:=Lib.hid hg1
 clear hb1 hg1
 go_wp2_with (at_make;refine wpList_makeA rfl _ _ rfl w1.heap.size .i64 .u64 (n:Int) n rfl rfl rfl (by omega) (Nat.le_refl _) ?_)
 intro v2 w2 hr2 hb2
 have HR2:=Lib.hid hr2
 have HB2:=Lib.hid (HB1.out.below hb2)
 have HG2:Hid (w1.grownBy w2 (some B)):=Lib.hid (grown_of_below hb2 _)
 clear hr2 hb2
 go_wp2
 go_loopw [8,25] (fun o i wr=>∃(j:Nat) (xs:List A) (tj:List Nat),j≤n∧i=.int .u64 (j:Int)∧Hid (RowA wr w1.heap.size o xs)∧Hid (xs.length=j)∧Hid (Box wr B (mkS tj))∧Hid (∀c∈tj,c<256)∧Hid (w1.grownBy wr (some B)) ∧
  Hid (rdL (rd m) n t=(rdL (rd m) (n-j) tj).map fun q=>(xs++q.1,q.2))) (fun _ i _=>n-(intOf i).toNat)
 case atStart=>exact⟨0,[],t,Nat.zero_le _,rfl,HR2,Lib.hid rfl,HB2,HTB,HG2,Lib.hid (by simp)⟩
 case round =>
  obtain⟨j,xs,tj,hj,rfl,HR,HXL,HB,HTJ,HG,HE⟩:=hrel
  have hw1r:w1.heap.size≤wr.heap.size:=HG.out.size
  have hBw1:B<w1.heap.size:=HB1.out.lt
  by_cases hlt:j<n
  ·have HC:=Lib.hid (ih tj B wr z HTJ.out HZ.out HB.out)
   obtain⟨r,hr⟩:∃r,rd m tj=r:=⟨_,rfl⟩
   have HRR:=Lib.hid hr
   rw[hr]at HC
   clear hr
   go_wp2_with (go_at_call 77;fail)
   refine HC.out.mono ?_
   intro e w3 hrq
   rcases hrq with⟨x,t',v,rfl,rfl,hv,hb3,hg3⟩ | ⟨rfl,v,s,rfl,hb3,hg3⟩
   ·have HE2:Hid (rdL (rd m) n t=(rdL (rd m) (n-(j+1)) t').map fun q=>((xs++[x])++q.1,q.2)):=Lib.hid (by rw[HE.out];exact rdL_go HRR.out hlt xs)
    have HT2:Hid (∀c∈t',c<256):=Lib.hid (fun c hc=>by
     have hw:=pr_rd m hm tj HTJ.out x t' HRR.out
     exact HTJ.out c (by rw[hw.text];simp[hc]))
    have HR3:=Lib.hid (HR.out.past hg3 hBw1)
    have hbl:=HR.out.lt
    have HV:Hid (AAt w3 (fun b=>w1.heap.size≤b∧u8.ownBlock≠some b) v x):=Lib.hid (hv.keep (fun b hb _=>⟨by omega,fun e=>by have:=(hbl b e).2;omega⟩) (Nat.le_refl _) (fun _ _ _=>rfl))
    have HB3:=Lib.hid hb3
    have HG3:=Lib.hid (grown_two HG.out hg3)
    have hform:=hv.form
    have hw13:w1.heap.size≤w3.heap.size:=HG3.out.size
    have HXB:Hid (xs.length≤1000000):=Lib.hid (by rw[HXL.out];omega)
    clear hv hb3 hg3 hbl
    rcases hform with⟨ty,u,rfl⟩ | rfl
    all_goals
     go_wp2_with (at_builtin;refine wpList_push rfl (.tmp 35) (.tmp 37) rfl w3 w1.heap.size _ _ x _ rfl rfl HR3.out HV.out rfl HXB.out hw13 ?_)
     intro v4 w4 hr4 hb4
     have HR4:=Lib.hid hr4
     have HB4:Hid (Box w4 B (mkS t')):=Lib.hid ((hb4.block B hBw1).trans HB3.out)
     have HG4:=Lib.hid (grown_below HG3.out hb4 (Nat.le_refl _))
     have HXL4:Hid ((xs++[x]).length=j+1):=Lib.hid (by rw[List.length_append,HXL.out];rfl)
     clear hr4 hb4
     go_wp2
     go_roundw
     case rel=>exact⟨j+1,_,t',by omega,by go_num,HR4,HXL4,HB4,HT2,HG4,HE2⟩
     case measure=>simp[intOf];omega
   ·have HE2:Hid (listR (some (rd m)) (n :: t)=none):=Lib.hid (by
     have h:rdL (rd m) n t=none:=by rw[HE.out,rdL_stop HRR.out hlt];rfl
     simp only[listR,h])
    have HB3:=Lib.hid hb3
    have HG3:=Lib.hid (grown_two HG1.out (grown_two HG.out hg3))
    clear hb3 hg3
    go_wp2
    go_ret2
    rw[HE2.out]
    exact ReadQ.no HB3.out HG3.out
  ·obtain rfl:j=n:=by omega
   have HE2:Hid (listR (some (rd m)) (j :: t)=some (.list xs,tj)):=Lib.hid (by
    have h:rdL (rd m) j t=some (xs,tj):=by rw[HE.out,Nat.sub_self];simp[rdL]
    simp only[listR,h])
   have HV:Hid (AAt wr (fun b=>w.heap.size≤b) (.iface 67 u8) (.list xs)):=Lib.hid (HR.out.has.keep (fun b hb _=>Nat.le_trans HG1.out.size hb) (Nat.le_refl _) (fun _ _ _=>rfl))
   have HG3:=Lib.hid (grown_two HG1.out HG.out)
   go_wp2
   go_ret2
   rw[HE2.out]
   exact ReadQ.ok HV.out HB.out HG3.out
end Go.Proofs.YtlogjpmdfimgdaaGreatDoor

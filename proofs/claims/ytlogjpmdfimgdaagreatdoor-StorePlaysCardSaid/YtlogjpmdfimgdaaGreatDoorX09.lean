/- The law's Texts and Made: by contract, given what disk.New and journal.Open answer. No condition but the sizes. | Appends to rows of the law's acts. No condition but the sizes. | The document's told, by contract. No condition but that the value is small enough. | The document's told of any value; its Print: by contract. No condition but that the value is small enough. | The document's Print, by contract; how long what is printed is at most. No condition but that the value is small enough. | What acts leave, given a journal that goes on: sizes, and an act: by contract. No condition but the law's own guards. | What a row of acts leaves, plainly; a commit of the law's changes: by contract. No condition but the law's own guards. | StoreKeys' own walk, given what a journal's functions answer. | StoreKeys' own walk, given what a journal's functions answer. No condition but the sizes. | awake's example (f5), given what a journal answers in it; what a commit, a compaction come to. No condition. -/
import Derived.Test.YtlogjpmdfimgdaaGreatDoorX08
import Derived.RegionTactic
import Derived.ChangeAlike
import Derived.Deep.AppendSrc
import Derived.Test.YtlogjpmdfimgdaaGreatDoorX03
import Derived.Laws.Concat
import Derived.Test.YtlogjpmdfimgdaaGreatDoorX02
namespace Go.Proofs.YtlogjpmdfimgdaaGreatDoor
open Go Go.RowKit Go.Own Go.Own.Fr Go.Maps Go.WideMaps
theorem strs_ff{a b:ByteArray}(h:a≠b):(a.toList == b.toList)=false:=by
 rw[ByteArray.toList_eq,ByteArray.toList_eq]
 exact beq_eq_false_iff_ne.2 fun e=>h (ByteArray.ext (Array.toList_inj.1 e))
theorem below_dr{B:Nat}{w w':World}(h:Below B w w')(k:Nat):Below B w (w'.drewN k):=⟨h.os,h.tape,h.output,h.size,h.block⟩
open Classical in
noncomputable def sameL(l m:List ByteArray):Bool:=decide (l=m)
def TextsQ(b:Bool)(w:World)(e:Ending)(w':World):Prop:=e=.returned (.bool b)∧Below w.heap.size w w'
set_option maxRecDepth 100000 in
set_option maxHeartbeats 4000000 in
theorem texts_any(l m:List ByteArray)(v u:Value)(w:World)(hv:StrRow w v l)(hu:StrRow w u m)(hl:l.length≤9223372036854775807)(hm:m.length≤9223372036854775807):Calls Tryz.prog 12 #[v,u] w (TextsQ (sameL l m) w):=by
 obtain⟨p,c,rfl,hc,hrow⟩:=hv
 obtain⟨p2,c2,rfl,hc2,hrow2⟩:=hu
 obtain⟨bb,hbb⟩:∃bb,sameL l m=bb:=⟨_,rfl⟩
 rw[hbb]
 have HBB:Hid (decide (l=m)=bb):=Lib.hid hbb
 have HR:=Lib.hid hrow
 have HR2:=Lib.hid hrow2
 by_cases hlen:l.length=m.length
 case neg =>
  have hb:bb=false:=by rw[←HBB.out];exact decide_eq_false fun e=>hlen (by rw[e])
  subst hb
  have hz:((l.length:Int) != (m.length:Int))=true:=by simp;omega
  generalize l.length=n at *
  generalize m.length=k at *
  clear hlen hbb hrow hrow2
  go_enter Tryz.func12,Tryz.ntmps12
  go_wp2
  go_ret
  exact⟨rfl,Below.refl _ _⟩
 obtain⟨n,hn⟩:∃n,l.length=n:=⟨_,rfl⟩
 have hn2:m.length=n:=by omega
 have HN:=Lib.hid hn
 have HN2:=Lib.hid hn2
 rw[hn]at hl hc ⊢
 rw[hn2]at hm hc2 ⊢
 clear hlen hbb hrow hrow2 hn hn2
 go_enter Tryz.func12,Tryz.ntmps12
 go_wp2
 go_loopw [5] (fun i wr=>∃j:Nat,j≤n∧i=.int .i64 (j:Int)∧Hid (Below w.heap.size w wr)∧Hid (l.take j=m.take j)) (fun i _=>n-(intOf i).toNat)
 case atStart=>exact⟨0,Nat.zero_le _,rfl,Lib.hid (Below.refl _ _),Lib.hid rfl⟩
 case round =>
  obtain⟨j,hj,rfl,HB,HT⟩:=hrel
  by_cases hlt:j<n
  ·have hlti:(j:Int)<(n:Int):=by omega
   obtain⟨x,hx⟩:∃x,l[j]?=some x:=⟨l[j]'(by have:=HN.out;omega),List.getElem?_eq_getElem _⟩
   obtain⟨y,hy⟩:∃y,m[j]?=some y:=⟨m[j]'(by have:=HN2.out;omega),List.getElem?_eq_getElem _⟩
   obtain⟨b,o,rfl,hb,d⟩:=HR.out j x hx
   obtain⟨b2,o2,rfl,hb2,d2⟩:=HR2.out j y hy
   have dd:=(HB.out.cell (p:=⟨b,o+j,none⟩) hb).trans d
   have dd2:=(HB.out.cell (p:=⟨b2,o2+j,none⟩) hb2).trans d2
   by_cases hxy:x=y
   ·have hq:(x.toList == y.toList)=true:=by rw[hxy];exact beq_self_eq_true _
    have HS:Hid (l.take (j+1)=m.take (j+1)):=Lib.hid (by rw[take_get hx,take_get hy,HT.out,hxy])
    clear hx hy hxy d d2
    go_wp2
    go_quiet (fail)
    have HBD:=Lib.hid (below_dr HB.out nq)
    go_wp2
    go_roundw
    case rel=>exact⟨j+1,by omega,by go_num,HBD,HS⟩
    case measure=>simp[intOf];omega
   ·have hq:(x.toList == y.toList)=false:=strs_ff hxy
    have hb:bb=false:=by
     rw[←HBB.out]
     refine decide_eq_false fun e=>hxy ?_
     rw[e]at hx
     exact Option.some.inj (hx.symm.trans hy)
    subst hb
    clear hx hy hxy d d2
    go_wp2
    go_quiet (fail)
    have HBD:=Lib.hid (below_dr HB.out nq)
    go_wp2
    go_ret
    exact⟨rfl,HBD.out⟩
  ·obtain rfl:j=n:=by omega
   have hb:bb=true:=by
    rw[←HBB.out]
    refine decide_eq_true ?_
    have h:=HT.out
    rwa [List.take_of_length_le (by rw[HN.out];exact Nat.le_refl _),List.take_of_length_le (by rw[HN2.out];exact Nat.le_refl _)]at h
   subst hb
   go_wp2
   go_ret
   exact⟨rfl,HB.out⟩
section
variable{Sg:Type}{base:Nat}{JS:(Nat→Prop)→World→Addr→Sg→Prop}{good:Sg→Prop}{tx:Sg→List (List Nat)}{apE:Sg→List Nat→Int}{apS:Sg→List Nat→Sg}{anE:Sg→List (List Nat)→Int}{anS:Sg→List (List Nat)→Sg}
def MadeQ(base:Nat)(JS:(Nat→Prop)→World→Addr→Sg→Prop)(DS:World→Addr→Prop)(s:Sg)(w:World)(e:Ending)(w':World):Prop :=
 ∃O S sb b n jp dp,e=.returned (.tuple #[.pointer (some dp),.pointer (some ⟨sb,0,none⟩)])∧n≤765000∧StoreAt base JS O S w' sb jp b n s (fun _=>none)∧Below w.heap.size w w'∧DS w' dp∧∀k,Ft O S sb b k→w.heap.size≤k
def DNewQ(JS:(Nat→Prop)→World→Addr→Sg→Prop)(DS:World→Addr→Prop)(s:Sg)(w:World)(e:Ending)(w':World):Prop :=
 ∃dp Od,e=.returned (.tuple #[.pointer (some dp),.int .i64 0])∧Below w.heap.size w w'∧(∀k,Od k→w.heap.size≤k)∧Calls Tryz.prog 24 #[.pointer (some dp)] w' (fun e w2=>JOpenQ JS Od s w' e w2∧∀w3,Below w2.heap.size w2 w3→DS w3 dp)
set_option maxRecDepth 100000 in
set_option maxHeartbeats 2000000 in
theorem made_any(HJ:Jour base JS good tx apE apS anE anS)(DS:World→Addr→Prop)(size:Int)(s:Sg)(w:World)(hnew:Calls Tryz.prog 23 #[.int .i64 size] w (DNewQ JS DS s w))(hgood:good s)(hg:tx s=[])(hbw:base≤w.heap.size) :
  Calls Tryz.prog 7 #[.int .i64 size] w (MadeQ base JS DS s w):=by
 have HO:=Lib.hid hnew
 clear hnew
 go_enter Tryz.func7,Tryz.ntmps7
 go_wp2_with fail
 refine HO.out.mono ?_
 rintro e w1 ⟨dp,Od,rfl,hb1,hod,hop⟩
 have HB1:=Lib.hid hb1
 have HOD:=Lib.hid hod
 have HOP:=Lib.hid hop
 clear hb1 hod hop HO
 go_wp2_with fail
 refine HOP.out.mono ?_
 rintro e w2 ⟨⟨O,jp,rfl,j1,j2,j3⟩,hds⟩
 have HS:=Lib.hid (open_any HJ O jp s w2 j1 hgood (Nat.le_trans (Nat.le_trans hbw HB1.out.size) j2.size))
 rw[hg]at HS
 have HJ2:=Lib.hid j2
 have HJ3:=Lib.hid j3
 have HDS:=Lib.hid hds
 clear HOP j1 j2 j3 hds
 go_wp2_with fail
 refine HS.out.mono ?_
 rintro e w3 ⟨hB,⟨h,_⟩ | ⟨g',sb,b,n,S,h,rfl,hn,⟨q1,q2,q3⟩,hst⟩⟩
 ·cases h
 ·obtain rfl:=Option.some.inj h
  have HQ:Hid (MadeQ base JS DS s w (.returned (.tuple #[.pointer (some dp),.pointer (some ⟨sb,0,none⟩)])) w3):=Lib.hid ⟨O,S,sb,b,n,jp,dp,rfl,hn,hst,(HB1.out.trans (HJ2.out.mono HB1.out.size)).trans (hB.mono (HB1.out.trans (HJ2.out.mono HB1.out.size)).size),HDS.out _ hB,fun k hk=>by
   have hz:=HJ2.out.size
   have hz1:=HB1.out.size
   rcases hk with h | h | h | h
   ·rcases HJ3.out k h with h | h
    ·exact HOD.out k h
    ·omega
   ·have:=q3 k h;omega
   ·omega
   ·omega⟩
  clear hB hst HS hn q1 q2 q3
  go_wp2
  go_ret2
  exact HQ.out
end
end Go.Proofs.YtlogjpmdfimgdaaGreatDoor
namespace Go.Proofs.YtlogjpmdfimgdaaGreatDoor
open Go Go.RowKit Go.Own Go.Own.Fr Go.Maps Go.WideMaps
end Go.Proofs.YtlogjpmdfimgdaaGreatDoor
namespace Go.Proofs.YtlogjpmdfimgdaaGreatDoor
open Go.RowKit Go.Own
attribute [-go_sem] run_string_add_if
theorem bytes_own(W:World)(B:Nat)(cs:List Nat)(hB:B≤W.heap.size)(hl:cs.length≤1000):OwnB (W.alloc (.cells (nb cs).toArray 5)) B (.slice (some ⟨W.heap.size,0,none⟩) cs.length cs.length) cs :=
 ⟨by simp[nb],Or.inr ⟨W.heap.size,cs.length,(nb cs).toArray,rfl,hB,heap_alloc_new W _,by simp,by unfold maxLen;omega,by simp[nb],List.take_of_length_le (by simp[nb])⟩⟩
theorem conv_one(W:World)(H:Nat)(x:Int)(c:Nat)(hx:x=(c:Int))(hH:W.heap.size=H) :
  (convert 140 9 (.slice (some ⟨H,0,none⟩) 1 1)).run Tryz.prog (W.alloc (.cells #[.int .u8 x] 5))=.ok (.string (mkS [c])) (W.alloc (.cells #[.int .u8 x] 5)):=by
 subst hx hH
 exact OwnB.str (bytes_own W 0 [c] (Nat.zero_le _) (by simp))
theorem conv_two(W:World)(H:Nat)(x y:Int)(c d:Nat)(hx:x=(c:Int))(hy:y=(d:Int))(hH:W.heap.size=H) :
  (convert 140 9 (.slice (some ⟨H,0,none⟩) 2 2)).run Tryz.prog (W.alloc (.cells #[.int .u8 x,.int .u8 y] 5))=.ok (.string (mkS [c,d])) (W.alloc (.cells #[.int .u8 x,.int .u8 y] 5)):=by
 subst hx hy hH
 exact OwnB.str (bytes_own W 0 [c,d] (Nat.zero_le _) (by simp))
theorem add_run(a b:ByteArray)(l:List Nat)(h:a++b=mkS l)(hs:a.size+b.size≤9223372036854775807)(W:World):(Op.stringOp .add a b).run Tryz.prog W=.ok (.string (mkS l)) W:=by
 rw[←h];exact run_string_add_sum W a b hs
theorem cat_l(c:Nat)(l:List Nat):mkS [c]++mkS l=mkS (c :: l):=by rw[←mkS_append];rfl
theorem cat_s(l:List Nat)(s:ByteArray):mkS l++s=mkS (l++bys s):=by rw[mkS_append,mkS_bys]
def ToldQ(a:A)(d:Nat)(w:World)(e:Ending)(w':World):Prop :=
 e=.returned (.tuple #[.string (if er a d=0 then mkS (pr a)else { data:=#[] }),.int .i64 (er a d)])∧Below w.heap.size w w'
def ToldB(x:V):Prop:=∀(d:Nat) (v:Value) (w:World),d≤8→fewV x d=true→Holds w v x→Calls Tryz.prog 102 #[v,.int .i64 (d:Int)] w (ToldQ (ofV x) d w)
set_option maxRecDepth 100000 in
set_option maxHeartbeats 1000000 in
theorem told_text(n:Int)(s:ByteArray)(b:Bool)(l:List V)(d:Nat)(v:Value)(w:World)(hs:s.size≤70000)(hv:Holds w v (.mk 2 n s b l)) :
  Calls Tryz.prog 102 #[v,.int .i64 (d:Int)] w (ToldQ (.str s) d w):=by
 obtain⟨p,cap,hp⟩:=VAt.parts hv
 obtain⟨rfl,_,_,_,_,_,_⟩:=hp
 by_cases h:65535<s.size
 ·have HE:Hid (er (.str s) d=3):=Lib.hid (by rw[er,if_pos h])
  have d1:decide ((65535:Int)<(s.size:Int))=true:=by simp;omega
  clear hv
  go_enter Tryz.func102,Tryz.ntmps102
  go_wp2
  go_ret2
  exact⟨by rw[HE.out];rfl,(Below.refl _ w).alloc (Nat.le_refl _) _⟩
 ·have HE:Hid (er (.str s) d=0):=Lib.hid (by rw[er,if_neg h])
  have d1:decide ((65535:Int)<(s.size:Int))=false:=by simp;omega
  clear hv
  have hcv:=conv_two (w.alloc (.cells #[.int .i64 2,.int .i64 n,.string s,.bool b,.slice p l.length cap] 59)) (w.heap.size+1) ((s.size:Int)/256) ((s.size:Int)%256) (s.size/256) (s.size%256) (by omega) (by omega) (by simp)
  have e2:[s.size/256,s.size%256]=be 2 s.size:=by simp[be];omega
  rw[e2]at hcv
  have ha1:=add_run { data:=#[115] } (mkS (be 2 s.size)) (115 :: be 2 s.size) (cat_l 115 _) (by rw[mkS_size,be_length];simp[ByteArray.size])
  have ha2:=add_run (mkS (115 :: be 2 s.size)) s (115 :: be 2 s.size++bys s) (cat_s _ _) (by rw[mkS_size,List.length_cons,be_length];omega)
  clear e2
  go_enter Tryz.func102,Tryz.ntmps102
  go_wp2
  go_ret2
  exact⟨by rw[HE.out];rfl,((Below.refl _ w).alloc (Nat.le_refl _) _).alloc (by simp) _⟩
theorem low_byte(n:Int)(j:Nat)(hj:j<8):n/256 ^ j%256=((u64 n/256 ^ j%256:Nat):Int):=by
 obtain⟨r,hr⟩:∃r:Nat,(r:Int)=n%(two64:Int):=⟨(n%(two64:Int)).toNat,Int.toNat_of_nonneg (Int.emod_nonneg _ (by unfold two64;omega))⟩
 have hu:u64 n=r:=by unfold u64;omega
 have hn:n=(r:Int)+256 ^ j*(256*(256 ^ (7-j)*(n/(two64:Int)))):=by
  have h1:=Int.emod_add_mul_ediv n (two64:Int)
  have h2:(two64:Int)=256 ^ j*(256*256 ^ (7-j)):=by
   rw[←Int.pow_succ',←Int.pow_add,show j+(7-j+1)=8 by omega]
   rfl
  rw[←hr]at h1
  rw[←Int.mul_assoc 256,←Int.mul_assoc (256 ^ j),←h2]
  exact h1.symm
 rw[hu,hn,Int.add_mul_ediv_left _ _ (by exact Int.ne_of_gt (Int.pow_pos (by omega)))]
 have h3:(r:Int)/256 ^ j=((r/256 ^ j:Nat):Int):=by simp
 rw[h3]
 omega
set_option maxRecDepth 100000 in
set_option maxHeartbeats 1000000 in
theorem told_num(n:Int)(s:ByteArray)(b:Bool)(l:List V)(d:Nat)(v:Value)(w:World)(hv:Holds w v (.mk 1 n s b l)) :
  Calls Tryz.prog 102 #[v,.int .i64 (d:Int)] w (ToldQ (.num n) d w):=by
 obtain⟨p,cap,hp⟩:=VAt.parts hv
 obtain⟨rfl,_,_,_,_,_,_⟩:=hp
 have HE:Hid (er (.num n) d=0):=Lib.hid rfl
 clear hv
 go_enter Tryz.func102,Tryz.ntmps102
 go_wp2
 have HW0:Hid (Below w.heap.size w (w.alloc (.cells #[.int .i64 1,.int .i64 n,.string s,.bool b,.slice p l.length cap] 59))):=Lib.hid ((Below.refl _ w).alloc (Nat.le_refl _) _)
 generalize w.alloc (.cells #[.int .i64 1,.int .i64 n,.string s,.bool b,.slice p l.length cap] 59)=W0 at *
 go_loopw [6,7,8] (fun t x i wr=>∃(j:Nat) (z:Int) (q:ByteArray),j≤8∧i=.int .i64 (j:Int)∧x=.int .i64 z∧t=.string q∧Hid (z=n/256 ^ j)∧Hid (q=mkS (be j (u64 n)))∧Hid (Below w.heap.size w wr)) (fun _ _ i _=>8-(intOf i).toNat)
 case atStart=>exact⟨0,n,_,by omega,rfl,rfl,rfl,Lib.hid (by simp),Lib.hid rfl,HW0⟩
 case round =>
  obtain⟨j,z,q,hj,rfl,rfl,rfl,HZ,HQ,HB⟩:=hrel
  by_cases hlt:j<8
  ·have hji:(j:Int)<8:=by omega
   have hcv:=conv_one wr wr.heap.size (z%256) (u64 n/256 ^ j%256) (by rw[HZ.out];exact low_byte n j hlt) rfl
   have ha:=add_run (mkS [u64 n/256 ^ j%256]) q (u64 n/256 ^ j%256 :: be j (u64 n)) (by rw[HQ.out];exact cat_l _ _) (by rw[HQ.out,mkS_size,mkS_size,be_length];simp;omega)
   have HZ2:Hid (z/256=n/256 ^ (j+1)):=Lib.hid (by
    rw[HZ.out,Int.ediv_ediv_of_nonneg (Int.pow_nonneg (by omega)),Int.pow_succ])
   have HQ2:Hid (mkS (u64 n/256 ^ j%256 :: be j (u64 n))=mkS (be (j+1) (u64 n))):=Lib.hid rfl
   obtain⟨q2,hq2⟩:∃q2,mkS (u64 n/256 ^ j%256 :: be j (u64 n))=q2:=⟨_,rfl⟩
   obtain⟨q1,hq1⟩:∃q1,mkS [u64 n/256 ^ j%256]=q1:=⟨_,rfl⟩
   rw[hq2]at ha HQ2
   rw[hq1]at ha hcv
   clear hq1 hq2
   have HB2:Hid (Below w.heap.size w (wr.alloc (.cells #[.int .u8 (z%256)] 5))):=Lib.hid (HB.out.alloc HB.out.size _)
   go_wp2
   go_roundw
   case rel=>exact⟨j+1,_,q2,by omega,by go_num,rfl,rfl,HZ2,HQ2,HB2⟩
   case measure=>simp[intOf];omega
  ·obtain rfl:j=8:=by omega
   have HT:Hid (mkS (105 :: be 8 (u64 n))=if er (.num n) d=0 then mkS (pr (.num n))else { data:=#[] }):=Lib.hid (by rw[HE.out];rfl)
   have ha:=add_run { data:=#[105] } q (105 :: be 8 (u64 n)) (by rw[HQ.out];exact cat_l _ _) (by rw[HQ.out,mkS_size,be_length];simp[ByteArray.size])
   obtain⟨q2,hq2⟩:∃q2,mkS (105 :: be 8 (u64 n))=q2:=⟨_,rfl⟩
   rw[hq2]at ha HT
   clear hq2
   go_wp2
   go_ret2
   exact⟨by rw[←HT.out,HE.out];rfl,HB.out⟩
end Go.Proofs.YtlogjpmdfimgdaaGreatDoor
namespace Go.Proofs.YtlogjpmdfimgdaaGreatDoor
open Go.RowKit Go.Own
attribute [-go_sem] run_string_add_if
set_option maxRecDepth 100000 in
set_option maxHeartbeats 1000000 in
theorem told_bool(n:Int)(s:ByteArray)(b:Bool)(l:List V)(d:Nat)(v:Value)(w:World)(hv:Holds w v (.mk 3 n s b l)) :
  Calls Tryz.prog 102 #[v,.int .i64 (d:Int)] w (ToldQ (.bool b) d w):=by
 obtain⟨p,cap,hp⟩:=VAt.parts hv
 obtain⟨rfl,_,_,_,_,_,_⟩:=hp
 have HE:Hid (er (.bool b) d=0):=Lib.hid rfl
 clear hv
 cases b
 ·go_enter Tryz.func102,Tryz.ntmps102
  go_wp2
  go_ret2
  exact⟨by rw[HE.out];rfl,(Below.refl _ w).alloc (Nat.le_refl _) _⟩
 ·go_enter Tryz.func102,Tryz.ntmps102
  go_wp2
  go_ret2
  exact⟨by rw[HE.out];rfl,(Below.refl _ w).alloc (Nat.le_refl _) _⟩
set_option maxRecDepth 100000 in
set_option maxHeartbeats 1000000 in
theorem told_none(k n:Int)(s:ByteArray)(b:Bool)(l:List V)(d:Nat)(v:Value)(w:World)(hk:k≠1∧k≠2∧k≠3∧k≠4)(hv:Holds w v (.mk k n s b l)) :
  Calls Tryz.prog 102 #[v,.int .i64 (d:Int)] w (ToldQ .none d w):=by
 obtain⟨p,cap,hp⟩:=VAt.parts hv
 obtain⟨rfl,_,_,_,_,_,_⟩:=hp
 have HE:Hid (er .none d=9):=Lib.hid rfl
 obtain⟨k1,k2,k3,k4⟩:=hk
 have e1:(k == 1)=false:=by simp[k1]
 have e2:(k == 2)=false:=by simp[k2]
 have e3:(k == 3)=false:=by simp[k3]
 have e4:(k == 4)=false:=by simp[k4]
 clear hv k1 k2 k3 k4
 go_enter Tryz.func102,Tryz.ntmps102
 go_wp2
 go_ret2
 exact⟨by rw[HE.out];rfl,(Below.refl _ w).alloc (Nat.le_refl _) _⟩
set_option maxRecDepth 100000 in
set_option maxHeartbeats 1000000 in
theorem told_list(n:Int)(s:ByteArray)(b:Bool)(l:List V)(ih:∀x∈l,ToldB x)(d:Nat)(v:Value)(w:World)(hd:d≤8)(hf:fewV (.mk 4 n s b l) d=true)(hv:Holds w v (.mk 4 n s b l))(hz:sz (.list (l.map ofV)) d≤140737488355328) :
  Calls Tryz.prog 102 #[v,.int .i64 (d:Int)] w (ToldQ (.list (l.map ofV)) d w):=by
 obtain⟨p,cap,hp⟩:=VAt.parts hv
 obtain⟨rfl,_,_,_,hle,hcap,hsub⟩:=hp
 obtain⟨_,hf2,hf3⟩:=fewV_parts hf
 obtain⟨m,hm⟩:∃m,l.length=m:=⟨_,rfl⟩
 rw[hm]at hle hf2 ⊢
 have hml:(l.map ofV).length=m:=by rw[List.length_map,hm]
 have hcs:(255<m)∨(m≤255∧8≤d)∨(m≤255∧d<8):=by omega
 rcases hcs with h | ⟨h,h2⟩ | ⟨h,h2⟩
 ·have HE:Hid (er (.list (l.map ofV)) d=3):=Lib.hid (by rw[er,if_pos (by omega)])
  have d1:decide ((255:Int)<(m:Int))=true:=by simp;omega
  clear hv hsub ih hm hf hf3 hml hz
  go_enter Tryz.func102,Tryz.ntmps102
  go_wp2
  go_ret2
  exact⟨by rw[HE.out];rfl,(Below.refl _ w).alloc (Nat.le_refl _) _⟩
 ·have HE:Hid (er (.list (l.map ofV)) d=3):=Lib.hid (by rw[er,if_pos (by omega)])
  have d1:decide ((255:Int)<(m:Int))=false:=by simp;omega
  have d2:decide ((8:Int)≤(d:Int))=true:=by simp;omega
  clear hv hsub ih hm hf hf3 hml hz
  go_enter Tryz.func102,Tryz.ntmps102
  go_wp2
  go_ret2
  exact⟨by rw[HE.out];rfl,(Below.refl _ w).alloc (Nat.le_refl _) _⟩
 ·have hc:¬(255<(l.map ofV).length∨8≤d):=by omega
  have HE:Hid (er (.list (l.map ofV)) d=ers (l.map ofV) (d+1)):=Lib.hid (by rw[er,if_neg hc])
  rw[sz,if_neg hc]at hz
  have d1:decide ((255:Int)<(m:Int))=false:=by simp;omega
  have d2:decide ((8:Int)≤(d:Int))=false:=by simp;omega
  have HM:=Lib.hid hm
  have HML:=Lib.hid hml
  have HSUB:=Lib.hid hsub
  have HI:=Lib.hid ih
  have HF3:=Lib.hid hf3
  have hcv:=conv_one (w.alloc (.cells #[.int .i64 4,.int .i64 n,.string s,.bool b,.slice p m cap] 59)) (w.heap.size+1) (m:Int) m rfl (by simp)
  have ha:=add_run { data:=#[108] } (mkS [m]) [108,m] (cat_l _ _) (by rw[mkS_size];simp[ByteArray.size])
  have HW0:Hid (Below w.heap.size w ((w.alloc (.cells #[.int .i64 4,.int .i64 n,.string s,.bool b,.slice p m cap] 59)).alloc (.cells #[.int .u8 (m:Int)] 5))):=Lib.hid (((Below.refl _ w).alloc (Nat.le_refl _) _).alloc (by simp) _)
  have HC4:Hid (((w.alloc (.cells #[.int .i64 4,.int .i64 n,.string s,.bool b,.slice p m cap] 59)).alloc (.cells #[.int .u8 (m:Int)] 5)).cell? ⟨w.heap.size,4,none⟩=some (.slice p m cap)):=Lib.hid (by
   rw[Below.cell (B:=w.heap.size+1) ((Below.refl _ _).alloc (by simp) _) (p:=⟨w.heap.size,4,none⟩) (by simp)]
   exact cell_new _ _ _ _)
  have HZ0:Hid (((w.alloc (.cells #[.int .i64 4,.int .i64 n,.string s,.bool b,.slice p m cap] 59)).alloc (.cells #[.int .u8 (m:Int)] 5)).heap.size=w.heap.size+2):=Lib.hid (by simp)
  have HSM:Hid (mkS [108,m]=mkS (108 :: (be 1 m++prs ((l.map ofV).take 0)))):=Lib.hid (by simp[be,prs];rw[Nat.mod_eq_of_lt (by omega)])
  clear hv hsub ih hm hf hf3 hml hc
  go_enter Tryz.func102,Tryz.ntmps102
  go_wp2
  generalize (w.alloc (.cells #[.int .i64 4,.int .i64 n,.string s,.bool b,.slice p m cap] 59)).alloc (.cells #[.int .u8 (m:Int)] 5)=W0 at *
  clear hcv ha
  go_loopw [9,10] (fun t i wr=>∃(j:Nat) (q:ByteArray),j≤m∧i=.int .i64 (j:Int)∧t=.string q∧Hid (q=mkS (108 :: (be 1 m++prs ((l.map ofV).take j))))∧Hid (ers ((l.map ofV).take j) (d+1)=0)∧Hid (Below (w.heap.size+1) W0 wr)) (fun _ i _=>m-(intOf i).toNat)
  case atStart=>exact⟨0,_,Nat.zero_le _,rfl,rfl,HSM,Lib.hid (by simp[ers]),Lib.hid (Below.refl _ _)⟩
  case round =>
   obtain⟨j,q,hj,rfl,rfl,HQ,HEJ,HB⟩:=hrel
   have c4:wr.cell? ⟨w.heap.size,4,none⟩=some (.slice p m cap):=by rw[HB.out.cell (p:=⟨w.heap.size,4,none⟩) (by simp)];exact HC4.out
   have HBW:Hid (Below w.heap.size w wr):=Lib.hid (HW0.out.trans (HB.out.mono (by omega)))
   have hzr:w.heap.size+1≤wr.heap.size:=by have:=HB.out.size;rw[HZ0.out]at this;omega
   by_cases hlt:j<m
   ·obtain⟨x,hx⟩:∃x,l[j]?=some x:=⟨_,List.getElem?_eq_getElem (by rw[HM.out];exact hlt)⟩
    obtain⟨g,o,t0,t1,t2,t3,t4,rfl,_,hg,hvx,e0,e1,e2,e3,e4⟩:=HSUB.out j x hx
    have hk:∀i,wr.cell? ⟨g,i,none⟩=w.cell? ⟨g,i,none⟩:=fun i=>HBW.out.cell (p:=⟨g,i,none⟩) hg
    rw[←hk]at e0 e1 e2 e3 e4
    have hmx:(l.map ofV)[j]?=some (ofV x):=by simp[hx]
    have HC:=Lib.hid (HI.out x (List.mem_of_getElem? hx) (d+1) _ wr (by omega) (HF3.out x (List.mem_of_getElem? hx)) (Holds.below hvx.holds HBW.out))
    have e1':(((d+1:Nat)):Int)=(d:Int)+1:=by omega
    rw[e1']at HC
    have HPS:=Lib.hid (prs_snoc hmx)
    have hle2:=szs_le hmx (d+1)
    have hlen:=prs_len HEJ.out
    by_cases hex:er (ofV x) (d+1)=0
    ·have HES:=Lib.hid (ers_snoc hmx HEJ.out hex)
     have hpl:=pr_sz _ _ hex
     have ha:=add_run q (mkS (pr (ofV x))) (108 :: (be 1 m++prs ((l.map ofV).take j))++pr (ofV x)) (by rw[HQ.out,mkS_append]) (by
      rw[HQ.out,mkS_size,mkS_size,List.length_cons,List.length_append,be_length];omega)
     have HQ2:Hid (mkS (108 :: (be 1 m++prs ((l.map ofV).take j))++pr (ofV x))=mkS (108 :: (be 1 m++prs ((l.map ofV).take (j+1))))):=Lib.hid (by rw[HPS.out];simp)
     unfold ToldQ at HC
     rw[hex,if_pos rfl]at HC
     obtain⟨q2,hq2⟩:∃q2,mkS (108 :: (be 1 m++prs ((l.map ofV).take j))++pr (ofV x))=q2:=⟨_,rfl⟩
     obtain⟨q1,hq1⟩:∃q1,mkS (pr (ofV x))=q1:=⟨_,rfl⟩
     rw[hq2]at ha HQ2
     rw[hq1]at ha HC
     clear hx hmx hk hvx hle2 hlen e1' hex hpl hq1 hq2
     go_wp2_with (go_at_call 102;fail)
     refine HC.out.mono ?_
     rintro e w3 ⟨rfl,hb3⟩
     have HB3:Hid (Below (w.heap.size+1) W0 w3):=Lib.hid (HB.out.trans (hb3.mono hzr))
     clear hb3
     go_wp2
     go_roundw
     case rel=>exact⟨j+1,q2,by omega,by go_num,rfl,HQ2,HES,HB3⟩
     case measure=>simp[intOf];omega
    ·have HST:=Lib.hid (ers_stop hmx HEJ.out hex)
     unfold ToldQ at HC
     rw[if_neg hex]at HC
     obtain⟨z,hz'⟩:∃z,er (ofV x) (d+1)=z:=⟨_,rfl⟩
     rw[hz']at HC HST hex
     have hzb:(z == 0)=false:=by simpa using hex
     have hzb2:(z != 0)=true:=by simpa using hex
     have HZ:=Lib.hid hex
     clear hx hmx hk hvx hle2 hlen e1' hex hz'
     go_wp2_with (go_at_call 102;fail)
     refine HC.out.mono ?_
     rintro e w3 ⟨rfl,hb3⟩
     have HB3:Hid (Below w.heap.size w w3):=Lib.hid (HBW.out.trans (hb3.mono (by omega)))
     clear hb3
     go_wp2
     go_ret2
     exact⟨by rw[HE.out,HST.out,if_neg HZ.out];rfl,HB3.out⟩
   ·obtain rfl:j=m:=by omega
    have hfull:(l.map ofV).take j=l.map ofV:=List.take_of_length_le (by rw[HML.out];exact Nat.le_refl _)
    have HE0:Hid (er (.list (l.map ofV)) d=0):=Lib.hid (by have h:=HEJ.out;rw[hfull]at h;rw[HE.out,h])
    have HT:Hid (q=mkS (pr (.list (l.map ofV)))):=Lib.hid (by rw[HQ.out,hfull,pr,HML.out])
    clear hfull
    go_wp2
    go_ret2
    exact⟨by rw[HE0.out,if_pos rfl,←HT.out];rfl,HBW.out⟩
end Go.Proofs.YtlogjpmdfimgdaaGreatDoor
namespace Go.Own
theorem bnd_top:∀(d f:Nat),f+d=8→bnd f d≤bnd 8 0
 |0,f,h=>by
  obtain rfl:f=8:=by omega
  exact Nat.le_refl _
 |d+1,f,h=>Nat.le_trans (bnd_mono f d) (bnd_top d (f+1) (by omega))
theorem sz_top(v:V)(d:Nat)(hd:d≤8)(hv:fewV v d=true):sz (ofV v) d≤100000000000000 :=
 Nat.le_trans (sz_bnd v (8-d) d (by omega) hv) (Nat.le_trans (bnd_top d (8-d) (by omega)) bnd_le)
end Go.Own
namespace Go.Proofs.YtlogjpmdfimgdaaGreatDoor
open Go.RowKit Go.Own
theorem told_any(x:V):ToldB x:=by
 induction x using V.ind with
 |h k n s b l ih =>
  intro d v w hd hf hv
  have hz:=sz_top _ d hd hf
  rcases kinds k with rfl | rfl | rfl | rfl | hk
  ·rw[show ofV (.mk 1 n s b l)=.num n by simp[ofV]]
   exact told_num n s b l d v w hv
  ·rw[show ofV (.mk 2 n s b l)=.str s by simp[ofV]]
   exact told_text n s b l d v w (fewV_parts hf).1 hv
  ·rw[show ofV (.mk 3 n s b l)=.bool b by simp[ofV]]
   exact told_bool n s b l d v w hv
  ·rw[show ofV (.mk 4 n s b l)=.list (l.map ofV) by simp[ofV,ofVs_map]]at hz ⊢
   exact told_list n s b l ih d v w hd hf hv (by omega)
  ·rw[show ofV (.mk k n s b l)=.none by simp[ofV,hk]]
   exact told_none k n s b l d v w hk hv
theorem VAt.five{w:World}{S:Nat→Prop}{v:Value}{x:V}(h:VAt w S v x):∃c0 c1 c2 c3 c4,v=.agg #[c0,c1,c2,c3,c4]:=by
 cases h <;> exact⟨_,_,_,_,_,rfl⟩
end Go.Proofs.YtlogjpmdfimgdaaGreatDoor
namespace Go.Own
theorem sz_anti(a:A):∀d,sz a (d+1)≤sz a d:=by
 induction a using A.ind with
 |h1 n=>intro d;simp[sz]
 |h2 s=>intro d;simp[sz]
 |h3 b=>intro d;simp[sz]
 |h4 l ih =>
  intro d
  rw[sz,sz]
  by_cases h:255<l.length∨8≤d+1
  ·rw[if_pos h];exact Nat.zero_le _
  ·rw[if_neg h,if_neg (by omega)]
   have:∀(r:List A),(∀x∈r,x∈l)→szs r (d+1+1)≤szs r (d+1):=by
    intro r
    induction r with
    |nil=>intro _;simp[szs]
    |cons x r ihr =>
     intro hr
     rw[szs,szs]
     have h1:=ih x (hr x (by simp)) (d+1)
     have h2:=ihr fun y hy=>hr y (List.mem_cons_of_mem _ hy)
     omega
   have:=this l fun x hx=>hx
   omega
 |h5=>intro d;simp[sz]
 |h6=>intro d;simp[sz]
theorem bnd_seven:bnd 7 1≤1000000000000:=by decide +kernel
theorem sz_two(v:V)(h:fewV v 1=true):sz (ofV v) 2≤1000000000000:=Nat.le_trans (sz_anti _ 1) (Nat.le_trans (sz_bnd v 7 1 (by omega) h) bnd_seven)
end Go.Own
namespace Go.Proofs.YtlogjpmdfimgdaaGreatDoor
open Go Go.RowKit Go.Own Go.Own.Fr Go.Maps Go.WideMaps
theorem ok_of_holds{w:World}{S:Nat→Prop}{v:Value}{x:V}(h:VAt w S v x):okA (ofV x):=by
 induction h with
 |nil k n s b hk hn hs =>
  rcases kinds k with rfl | rfl | rfl | rfl | hk3 <;> simp[ofV,okA,ofVs,okAs, *]
 |empty k n s b hk hn hs a cap hcap =>
  rcases kinds k with rfl | rfl | rfl | rfl | hk3 <;> simp[ofV,okA,ofVs,okAs, *]
 |list k n s b hk hn hs g o m cap l U hm hS hb hle hcap hc ha ih =>
  rcases kinds k with rfl | rfl | rfl | rfl | hk3
  ·simp[ofV,okA,hn]
  ·simp[ofV,okA]
  ·simp[ofV,okA]
  ·rw[show ofV (.mk 4 n s b l)=.list (l.map ofV) by simp[ofV,ofVs_map]]
   rw[okA,okAs_all]
   intro x hx
   obtain⟨y,hy,rfl⟩:=List.mem_map.1 hx
   obtain⟨j,hj⟩:=List.getElem?_of_mem hy
   exact ih j y hj
  ·simp[ofV,okA,hk3]
theorem chV_val{x:ByteArray×V×Bool}{a:A}(h:(chV x).2=some a):a=ofV x.2.1:=by
 unfold chV at h
 simp only at h
 split at h
 ·cases h
 ·exact(Option.some.inj h).symm
theorem inCh_ok{w:World}{v:Value}{l:List (ByteArray×V×Bool)}(h:InCh w v l):∀c∈l.map chV,∀a,c.2=some a→okA a:=by
 intro c hc a ha
 obtain⟨x,hx,rfl⟩:=List.mem_map.1 hc
 obtain⟨j,hj⟩:=List.getElem?_of_mem hx
 obtain⟨p,cap,_,_,hrow⟩:=h
 obtain⟨b,o,c0,c1,c2,c3,c4,_,_,_,_,_,_,_,_,_,hH⟩:=hrow j x hj
 rw[chV_val ha]
 exact ok_of_holds hH
theorem szs_acts(l:List (ByteArray×V×Bool))(h:∀x∈l,OkC x):∀c∈l.map chV,∀a,c.2=some a→sz a 2≤1000000000000:=by
 intro c hc a ha
 obtain⟨x,hx,rfl⟩:=List.mem_map.1 hc
 rw[chV_val ha]
 exact sz_two _ (h x hx).2.1
theorem sz_tr30(cs:List Ch)(h:∀c∈cs,∀a,c.2=some a→sz a 2≤1000000000000)(hl:cs.length≤30):sz (trA cs) 0≤140737488355328:=by
 unfold trA
 have h1:_≤2+szs _ 1:=sz_list (cs.map chA) 0
 have h2:=szs_bound 1 1000000100000 (cs.map chA) (fun x hx=>by
  obtain⟨c,hc,rfl⟩:=List.mem_map.1 hx
  exact sz_chA c (h c hc))
 rw[List.length_map]at h2
 have h3:cs.length*1000000100000≤30*1000000100000:=Nat.mul_le_mul_right _ hl
 omega
section
variable{Sg:Type}{base:Nat}{JS:(Nat→Prop)→World→Addr→Sg→Prop}{good:Sg→Prop}{tx:Sg→List (List Nat)}{apE:Sg→List Nat→Int}{apS:Sg→List Nat→Sg}{anE:Sg→List (List Nat)→Int}{anS:Sg→List (List Nat)→Sg}
structure Goes(good:Sg→Prop)(apE:Sg→List Nat→Int)(apS:Sg→List Nat→Sg)(anE:Sg→List (List Nat)→Int)(anS:Sg→List (List Nat)→Sg):Prop where
 ap:∀s t,good s→(∀c∈t,c<256)→(apE s t=0∨apE s t=6)∧good (apS s t)
 an:∀s ts,good s→(∀t∈ts,∀c∈t,c<256)→(anE s ts=0∨anE s ts=1∨anE s ts=6)∧good (anS s ts)
def StepR(apE:Sg→List Nat→Int)(apS:Sg→List Nat→Sg)(anE:Sg→List (List Nat)→Int)(anS:Sg→List (List Nat)→Sg)(s:Sg)(g:ByteArray→Option A)(a:Ac)(c:Int)(s':Sg)(g':ByteArray→Option A):Prop :=
 (a.cp=true∧∃ks,RisesA g (fun _=>true) ks∧c=(anewR (anE s ((txsB g ks).map bys)) g g).1∧s'=anS s ((txsB g ks).map bys)∧g'=(anewR (anE s ((txsB g ks).map bys)) g g).2)∨(a.cp=false∧Commits apE apS anE anS s g (a.l.map chV) c s' g')
def DoesQ(base:Nat)(JS:(Nat→Prop)→World→Addr→Sg→Prop)(good:Sg→Prop)(sb:Nat)(jp:Addr)(F:Nat→Prop)(M:Nat)(R:Int→Sg→(ByteArray→Option A)→Prop)(w:World)(e:Ending)(w':World):Prop :=
 ∃O' S' b' n' c s' g',e=.returned (.int .i64 c)∧StoreAt base JS O' S' w' sb jp b' n' s' g'∧good s'∧Small g'∧R c s' g'∧n'≤M∧Chg F w w'∧∀k,Ft O' S' sb b' k→F k∨w.heap.size≤k
theorem txs256(g:ByteArray→Option A)(ks:List ByteArray):∀t∈(txsB g ks).map bys,∀c∈t,c<256:=fun t ht=>by
 obtain⟨y,_,rfl⟩:=List.mem_map.1 ht
 exact bys_lt y
theorem anewR_small{x:Int}{g0 g:ByteArray→Option A}(h0:Small g0)(h:Small g):Small (anewR x g0 g).2:=by
 unfold anewR
 split
 ·exact h
 ·split
  ·exact small_none
  ·exact h0
theorem commits_small(HG:Goes good apE apS anE anS){s s':Sg}{g g':ByteArray→Option A}{l:List (ByteArray×V×Bool)}{c:Int}(hgood:good s)(hg:Small g)(hf:∀x∈l,OkC x)(h:Commits apE apS anE anS s g (l.map chV) c s' g'):good s'∧Small g':=by
 have hsm:er (trA (l.map chV)) 0=0→Small ((l.map chV).foldl chF g):=fun he=>Small.fold _ g hg fun c hc=>⟨((er_trA he).2 c hc).1,szs_acts l hf c hc⟩
 rcases h with⟨_,_,rfl,rfl⟩ | ⟨he,⟨_,_,rfl,rfl⟩ | ⟨_,ks,_,_,rfl,rfl⟩ | ⟨_,_,_,rfl,rfl⟩⟩
 ·exact⟨hgood,hg⟩
 ·exact⟨(HG.ap s _ hgood (bys_lt _)).2,hsm he⟩
 ·exact⟨(HG.an _ _ (HG.ap s _ hgood (bys_lt _)).2 (txs256 _ _)).2,anewR_small hg (hsm he)⟩
 ·exact⟨(HG.ap s _ hgood (bys_lt _)).2,small_none⟩
theorem does_ok(HJ:Jour base JS good tx apE apS anE anS)(HG:Goes good apE apS anE anS)(O S:Nat→Prop)(sb b n:Nat)(jp:Addr)(s:Sg)(g:ByteArray→Option A)(w:World)(H:StoreAt base JS O S w sb jp b n s g)(hgood:good s)(hbw:base≤w.heap.size)(hn:n≤900000)(hg:Small g)
  (a:Ac) (lv:Value) (hl:InCh w lv a.l) (ha:OkA a) :
  Calls Tryz.prog 10 #[.pointer (some ⟨sb,0,none⟩),.agg #[lv,.bool a.cp,.int .i64 a.k1,.int .u64 a.k2,.int .i64 a.k3]] w (DoesQ base JS good sb jp (Ft O S sb b) (n+30) (StepR apE apS anE anS s g a) w):=by
 have hsz:=szs_acts a.l ha.2
 refine(does_any HJ O S sb b n jp s g w H hgood hbw hn hg a.l lv a.cp a.k1 a.k3 a.k2 hl (by have:=ha.1;omega) (fun x hx=>⟨(ha.2 x hx).2.1,by have:=(ha.2 x hx).1;omega⟩) (sz_tr30 _ hsz (by rw[List.length_map];exact ha.1)) (fun he=>trOf_prt he (inCh_ok hl))
  (fun he h6=>⟨(HG.ap s _ hgood (bys_lt _)).2,Small.fold _ g hg fun c hc=>⟨((er_trA he).2 c hc).1,hsz c hc⟩⟩)).mono fun e w' h=>?_
 rcases h with⟨hc,ks,O',S',b',n',h1,rfl,h3,h4,h5,h6⟩ | ⟨hc,O',S',b',n',c,s',g',rfl,h2,h3,h4,h5,h6⟩
 ·exact⟨O',S',b',n',_,_,_,rfl,h3,(HG.an _ _ hgood (txs256 _ _)).2,anewR_small hg hg,Or.inl ⟨hc,ks,h1,rfl,rfl,rfl⟩,by omega,h5,h6⟩
 ·obtain⟨h7,h8⟩:=commits_small HG hgood hg ha.2 h3
  exact⟨O',S',b',n',c,s',g',rfl,h2,h7,h8,Or.inr ⟨hc,h3⟩,by have:=ha.1;omega,h5,h6⟩
end
end Go.Proofs.YtlogjpmdfimgdaaGreatDoor
namespace Go.Own
theorem er_down(a:A):∀d,er a (d+1)=0→er a d=0:=by
 induction a using A.ind with
 |h1 n=>intro d _;simp[er]
 |h2 s=>intro d h;simpa [er]using h
 |h3 b=>intro d _;simp[er]
 |h4 l ih =>
  intro d h
  obtain⟨h1,h2⟩:=Go.Proofs.YtlogjpmdfimgdaaGreatDoor.er_list h
  have h8:¬8≤d+1:=fun e=>by
   unfold er at h
   rw[if_pos (Or.inr e)]at h
   cases h
  rw[er,if_neg (by omega),ers_zero]
  exact fun x hx=>ih x hx (d+1) (h2 x hx)
 |h5=>intro d h;simp[er]at h
 |h6=>intro d h;simp[er]at h
theorem er_two(a:A)(h:er a 2=0):er a 0=0:=er_down a 0 (er_down a 1 h)
theorem sz_zero(a:A)(h:er a 2=0):sz a 0=sz a 2:=by rw[←pr_sz a 0 (er_two a h),pr_sz a 2 h]
def Fine(g:ByteArray→Option A):Prop:=∀k a,g k=some a→er a 2=0
theorem fine_none:Fine (fun _=>none):=fun _ _ h=>by cases h
theorem Fine.fold:∀(cs:List Ch) (g:ByteArray→Option A),Fine g→(∀c∈cs,∀a,c.2=some a→er a 2=0)→Fine (cs.foldl chF g)
 | [],_,h,_=>h
 |c :: cs,g,h,hc=>Fine.fold cs _ (fun k a ha=>by
   unfold chF at ha
   split at ha
   ·exact hc c (by simp) a ha
   ·exact h k a ha) fun c' h'=>hc c' (List.mem_cons_of_mem _ h')
theorem RisesA.filter{g:ByteArray→Option A}{p:ByteArray→Bool}{ks:List ByteArray}(h:RisesA g (fun _=>true) ks):RisesA g p (ks.filter p):=by
 refine⟨h.1.filter _,fun s=>?_⟩
 rw[List.mem_filter,h.2 s]
 simp
end Go.Own
namespace Go.Proofs.YtlogjpmdfimgdaaGreatDoor
open Go Go.RowKit Go.Own Go.Own.Fr Go.Maps Go.WideMaps
theorem begB_none(s:ByteArray):begB s { data:=#[] }=true:=by
 unfold begB
 refine decide_eq_true ⟨Nat.zero_le _,?_⟩
 apply bys_inj
 rw[bys_extract]
 rfl
section
variable{Sg:Type}{base:Nat}{JS:(Nat→Prop)→World→Addr→Sg→Prop}{good:Sg→Prop}{tx:Sg→List (List Nat)}{apE:Sg→List Nat→Int}{apS:Sg→List Nat→Sg}{anE:Sg→List (List Nat)→Int}{anS:Sg→List (List Nat)→Sg}
structure Live(base:Nat)(JS:(Nat→Prop)→World→Addr→Sg→Prop)(good:Sg→Prop)(sb:Nat)(jp:Addr)(M:Nat)(w0 w:World)(s:Sg)(g:ByteArray→Option A):Prop where
 ex:∃O S b n,StoreAt base JS O S w sb jp b n s g∧n≤M
 good:good s
 small:Small g
 fine:Fine g
 below:Below base w0 w
theorem StoreAt.from(HJ:Jour base JS good tx apE apS anE anS){O S:Nat→Prop}{w:World}{sb b n:Nat}{jp:Addr}{s:Sg}{g:ByteArray→Option A}(H:StoreAt base JS O S w sb jp b n s g):∀k,Ft O S sb b k→base≤k:=fun k hk=>by
 rcases hk with h | h | h | h
 ·exact(HJ.lt O w jp s H.jour k h).1
 ·exact H.bs k h
 ·rw[h];exact H.bb
 ·rw[h];exact H.bsb
theorem below_chg{F:Nat→Prop}{w0 w w':World}(h:Below base w0 w)(hbw:base≤w.heap.size)(hF:∀k,F k→base≤k)(hc:Chg F w w'):Below base w0 w' :=
 ⟨hc.1.os.trans h.os,hc.1.tape.trans h.tape,hc.1.output.trans h.output,Nat.le_trans h.size hc.1.size,fun k hk=>(hc.2 k (by omega) (fun hf=>by have:=hF k hf;omega)).trans (h.block k hk)⟩
theorem Live.more(HJ:Jour base JS good tx apE apS anE anS){sb M:Nat}{jp:Addr}{w0 w w':World}{s:Sg}{g:ByteArray→Option A}(h:Live base JS good sb jp M w0 w s g)(hbw:base≤w.heap.size)(hB:Below w.heap.size w w'):Live base JS good sb jp M w0 w' s g where
 ex:=by
  obtain⟨O,S,b,n,h1,h2⟩:=h.ex
  exact⟨O,_,b,n,h1.below HJ hbw hB,h2⟩
 good:=h.good
 small:=h.small
 fine:=h.fine
 below:=h.below.trans (hB.mono hbw)
end
end Go.Proofs.YtlogjpmdfimgdaaGreatDoor
namespace Go.Proofs.YtlogjpmdfimgdaaGreatDoor
open Go Go.RowKit Go.Own Go.Own.Fr Go.Maps Go.WideMaps
def KeysL(g:ByteArray→Option A)(p:ByteArray→Bool)(w:World)(e:Ending)(w':World):Prop :=
 ∃v ks,e=.returned v∧OwnS w' w.heap.size v ks∧RisesA g p ks∧ks.length≤1000000∧Below w.heap.size w w'
set_option maxRecDepth 100000 in
theorem keysL_any(p:ByteArray)(sb b n:Nat)(jp:Option Addr)(S:Nat→Prop)(g:ByteArray→Option A)(hn:n≤1000000)(w:World)(hs:SAt w sb jp b)(h:MapA w S b n g) :
  Calls Tryz.prog 13 #[.pointer (some ⟨sb,0,none⟩),.string p] w (KeysL g (begB · p) w):=by
 obtain⟨_,f,hm,hf⟩:=h
 obtain⟨W,hW⟩:∃W,w.alloc (.cells #[.string p] 9)=W:=⟨_,rfl⟩
 have hB:Below w.heap.size w W:=hW▸(Below.refl _ w).alloc (Nat.le_refl _) _
 have hp:W.heap[w.heap.size]?=some (.cells #[.string p] 9 (0,0)):=hW▸heap_alloc_new w _
 have hsW:=(hB.block sb hs.1).trans hs.2
 obtain⟨c0,c1⟩:=cells2 hsW
 have HR:=Lib.hid (risingP b n f (begB · p) w.heap.size W (hm.below hB) hn (fun s V hV=>want30 s p w.heap.size V ((hV.block _ (Array.getElem?_eq_some_iff.1 hp).1).trans hp)))
 have HA:Hid (∀ks,Rises f (begB · p) ks→RisesA g (begB · p) ks):=Lib.hid fun ks h=>rises_A hf h
 have HB:=Lib.hid hB
 clear hm hf hs hsW hp hB
 go_enter Tryz.func13,Tryz.ntmps13
 go_wp2_with fail
 refine HR.out.mono ?_
 rintro e w' ⟨v,ks,rfl,hO,⟨hR,hlen⟩,hB2⟩
 have hQ:Hid (KeysL g (begB · p) w (.returned v) w'):=Lib.hid ⟨v,ks,rfl,ownsRow_less hO HB.out.size,HA.out ks hR,hlen,HB.out.trans (hB2.mono HB.out.size)⟩
 clear hO hR hB2 hlen
 go_wp2
 go_ret
 exact hQ.out
section
variable{Sg:Type}{base:Nat}{JS:(Nat→Prop)→World→Addr→Sg→Prop}{good:Sg→Prop}{tx:Sg→List (List Nat)}{apE:Sg→List Nat→Int}{apS:Sg→List Nat→Sg}{anE:Sg→List (List Nat)→Int}{anS:Sg→List (List Nat)→Sg}
end
end Go.Proofs.YtlogjpmdfimgdaaGreatDoor
namespace Go.Proofs.YtlogjpmdfimgdaaGreatDoor
open Go Go.RowKit Go.Own Go.Own.Fr Go.Maps Go.WideMaps
theorem wpList_appR{ops:Array Oper}{rest:List Oper}{o:Oper}{a:Act}{Q:Exit→Act→World→Prop}{W:World}(hgd:o.guard=none)(s x:Operand)(t:TypeId)
  (ho:o.op=.call { callee:=.builtin .append,args:=#[s,x],argTypes:=#[t,t] }) (v u v':Value) (W':World) (hs:a.eval s=v) (hx:a.eval x=u) (hr:(Builtin.append_ #[t,t] o.type #[v,u]).run Tryz.prog W=.ok v' W') (h:wpList Tryz.prog ops Q rest (a.put o.dst v') W'):wpList Tryz.prog ops Q (o :: rest) a W:=by
 refine wpList_plain hgd fun _ hK=>?_
 unfold Oper.wp execOp
 simp only[ho,resolve,invoke,builtin,Sem.run_bind,Sem.run_pure,Result.andThen_ok,List.map_toArray,List.map_cons,List.map_nil,hs,hx,hr]
 exact hK _ _ h
section
variable{Sg:Type}{base:Nat}{JS:(Nat→Prop)→World→Addr→Sg→Prop}{good:Sg→Prop}{tx:Sg→List (List Nat)}{apE:Sg→List Nat→Int}{apS:Sg→List Nat→Sg}{anE:Sg→List (List Nat)→Int}{anS:Sg→List (List Nat)→Sg}
theorem OwnS.len{w:World}{B:Nat}{v:Value}{l:List ByteArray}(h:OwnS w B v l):l.length≤9223372036854775807:=by
 rcases h.2 with⟨_,h2⟩ | ⟨g,cap,cur,_,_,_,h1,h2,_⟩
 ·omega
 ·unfold maxLen at h2;omega
theorem StoreAt.lt(HJ:Jour base JS good tx apE apS anE anS){O S:Nat→Prop}{w:World}{sb b n:Nat}{jp:Addr}{s:Sg}{g:ByteArray→Option A}(H:StoreAt base JS O S w sb jp b n s g):∀k,Ft O (fun k=>S k∧k<w.heap.size) sb b k→k<w.heap.size:=fun k hk=>by
 rcases hk with h | h | h | h
 ·exact(HJ.lt O w jp s H.jour k h).2
 ·exact h.2
 ·obtain⟨_,f,hm,_⟩:=H.map
  rw[h];exact hm.lt
 ·rw[h];exact H.at_.1
theorem keep_at{w w':World}{b:Nat}{x:Obj}(hB:Below w.heap.size w w')(h:w.heap[b]?=some x):w'.heap[b]?=some x:=(hB.block b (Array.getElem?_eq_some_iff.1 h).1).trans h
def TrueQ(base:Nat)(w:World)(e:Ending)(w':World):Prop:=e=.returned (.bool true)∧Below base w w'
end
end Go.Proofs.YtlogjpmdfimgdaaGreatDoor
namespace Go.Proofs.YtlogjpmdfimgdaaGreatDoor
open Go Go.RowKit Go.Own Go.Own.Fr Go.Maps Go.WideMaps
def kA:ByteArray:={ data:=#[97] }
def kB:ByteArray:={ data:=#[98] }
def kC:ByteArray:={ data:=#[99] }
def vX:A:=.list [.str { data:=#[120] }]
def cs1:List Ch:=[(kA,some (.num 1)),(kB,some vX)]
def cs2:List Ch:=[(kA,none)]
def cs3:List Ch:=[(kC,some .odd)]
def gB:ByteArray→Option A:=fun k=>if k=kB then some vX else none
section
variable{Sg:Type}{base:Nat}{JS:(Nat→Prop)→World→Addr→Sg→Prop}{good:Sg→Prop}{tx:Sg→List (List Nat)}{apE:Sg→List Nat→Int}{apS:Sg→List Nat→Sg}{anE:Sg→List (List Nat)→Int}{anS:Sg→List (List Nat)→Sg}
structure Exam(base:Nat)(JS:(Nat→Prop)→World→Addr→Sg→Prop)(good:Sg→Prop)(tx:Sg→List (List Nat))(apE:Sg→List Nat→Int)(apS:Sg→List Nat→Sg)(anE:Sg→List (List Nat)→Int)(anS:Sg→List (List Nat)→Sg)(dk:Sg→Addr)(reS:Sg→Sg)(s0 s1 s2 s3:Sg):Prop where
 hg:good s0
 ht:tx s0=[]
 e1:apE s0 (bys (prt (trA cs1)))=0
 h1:apS s0 (bys (prt (trA cs1)))=s1
 e2:apE s1 (bys (prt (trA cs2)))=0
 h2:apS s1 (bys (prt (trA cs2)))=s2
 e3:anE s2 ((txsB gB [kB]).map bys)=0
 h3:anS s2 ((txsB gB [kB]).map bys)=s3
 hd:dk s3=dk s0
 re:∀O W jp,JS O W jp s3→Calls Tryz.prog 24 #[.pointer (some (dk s3))] W (JOpenQ JS O (reS s3) W)
 rg:good (reS s3)
 op:openF (fun _=>Option.none) (tx (reS s3))=some gB
theorem Live.commit(HJ:Jour base JS good tx apE apS anE anS)(HG:Goes good apE apS anE anS){sb M:Nat}{jp:Addr}{w0 w:World}{s:Sg}{g:ByteArray→Option A}(H:Live base JS good sb jp M w0 w s g)(hbw:base≤w.heap.size)(hM:M≤900000)(v:Value)(cs:List Ch)(hcs:ChRow w v cs)(hl:cs.length≤30)
  (hsz:∀c∈cs,∀a,c.2=some a→sz a 2≤1000000000000) (hok:∀c∈cs,∀a,c.2=some a→okA a) (hk:∀c∈cs,c.1.size≤65535) (he:er (trA cs) 0=0) (h0:apE s (bys (prt (trA cs)))=0) :
  Calls Tryz.prog 16 #[.pointer (some ⟨sb,0,none⟩),v] w fun e w'=>e=.returned (.int .i64 0)∧Live base JS good sb jp (M+30) w0 w' (apS s (bys (prt (trA cs)))) (cs.foldl chF g):=by
 obtain⟨O,S,b,n,hst,hn⟩:=H.ex
 have hsm:Small (cs.foldl chF g):=Small.fold _ g H.small fun c hc=>⟨((er_trA he).2 c hc).1,hsz c hc⟩
 refine(commit_any HJ O S sb b n jp s g w hst H.good hbw v cs hcs (by omega) (by omega) (sz_tr30 _ hsz hl) (fun he=>trOf_prt he hok) (fun c hc=>by have:=hk c hc;unfold maxLen;omega)
  (fun _ h6=>⟨(HG.ap s _ H.good (bys_lt _)).2,hsm⟩)).mono fun e w' h=>?_
 obtain⟨O',S',b',n',c,s',g',rfl,h2,h3,h4,h5,h6⟩:=h
 have hc:c=0∧s'=apS s (bys (prt (trA cs)))∧g'=cs.foldl chF g:=by
  rcases h3 with h | ⟨_,h | h | h⟩
  ·exact absurd he h.1
  ·exact h.2
  ·rw[h0]at h;exact absurd h.1 (by decide)
  ·exact absurd h0 h.1
 obtain⟨rfl,rfl,rfl⟩:=hc
 exact⟨rfl,⟨O',S',b',n',h2,by omega⟩,(HG.ap s _ H.good (bys_lt _)).2,hsm,Fine.fold _ g H.fine fun c hc=>((er_trA he).2 c hc).2,below_chg H.below hbw (hst.from HJ) h5⟩
theorem Live.commit_no(HJ:Jour base JS good tx apE apS anE anS){sb M:Nat}{jp:Addr}{w0 w:World}{s:Sg}{g:ByteArray→Option A}(H:Live base JS good sb jp M w0 w s g)(hbw:base≤w.heap.size)(hM:M≤900000)(v:Value)(cs:List Ch)(hcs:ChRow w v cs)(hl:cs.length≤30)
  (hsz:∀c∈cs,∀a,c.2=some a→sz a 2≤1000000000000) (hk:∀c∈cs,c.1.size≤65535) (he:er (trA cs) 0≠0) :
  Calls Tryz.prog 16 #[.pointer (some ⟨sb,0,none⟩),v] w fun e w'=>e=.returned (.int .i64 (er (trA cs) 0))∧Live base JS good sb jp (M+30) w0 w' s g:=by
 obtain⟨O,S,b,n,hst,hn⟩:=H.ex
 refine(commit_any HJ O S sb b n jp s g w hst H.good hbw v cs hcs (by omega) (by omega) (sz_tr30 _ hsz hl) (fun h=>absurd h he) (fun c hc=>by have:=hk c hc;unfold maxLen;omega)
  (fun h=>absurd h he)).mono fun e w' h=>?_
 obtain⟨O',S',b',n',c,s',g',rfl,h2,h3,h4,h5,h6⟩:=h
 have hc:c=er (trA cs) 0∧s'=s∧g'=g:=by
  rcases h3 with h | ⟨h,_⟩
  ·exact h.2
  ·exact absurd h he
 obtain⟨rfl,rfl,rfl⟩:=hc
 exact⟨rfl,⟨O',S',b',n',h2,by omega⟩,H.good,H.small,H.fine,below_chg H.below hbw (hst.from HJ) h5⟩
theorem Live.compact(HJ:Jour base JS good tx apE apS anE anS)(HG:Goes good apE apS anE anS){sb M:Nat}{jp:Addr}{w0 w:World}{s:Sg}{g:ByteArray→Option A}(H:Live base JS good sb jp M w0 w s g)(hbw:base≤w.heap.size)(hM:M≤1000000)(ks:List ByteArray)(hks:RisesA g (fun _=>true) ks)(h0:anE s ((txsB g ks).map bys)=0) :
  Calls Tryz.prog 21 #[.pointer (some ⟨sb,0,none⟩)] w fun e w'=>e=.returned (.int .i64 0)∧∃O S b n,StoreAt base JS O S w' sb jp b n (anS s ((txsB g ks).map bys)) g∧Live base JS good sb jp M w0 w' (anS s ((txsB g ks).map bys)) g:=by
 obtain⟨O,S,b,n,hst,hn⟩:=H.ex
 refine(compact_any HJ O S sb b n jp s g w hst H.good (by omega) hbw H.small).mono fun e w' h=>?_
 obtain⟨ks',O',S',b',n',hr,rfl,h2,h3,h4,h5⟩:=h
 obtain rfl:=hr.unique hks
 rw[h0]at h2 ⊢
 exact⟨rfl,O',S',b',n',h2,⟨O',S',b',n',h2,by omega⟩,(HG.an s _ H.good (txs256 g ks')).2,H.small,H.fine,below_chg H.below hbw (hst.from HJ) h4⟩
theorem alloc_sz(w:World)(o:Obj):(w.alloc o).heap.size=w.heap.size+1:=by
 unfold World.alloc
 exact Array.size_push _
theorem chRow1(w:World):ChRow ((w.alloc (Obj.cells #[Value.iface 9 (Value.string { data:=#[120] })] 20)).alloc (Obj.cells #[Value.string { data:=#[97] },Value.iface 3 (Value.int IntKind.i64 1),Value.bool false,Value.string { data:=#[98] },Value.iface 67 (Value.slice (some { block:=w.heap.size,off:=0 }) 1 1),Value.bool false] 66))
  (Value.slice (some { block:=w.heap.size+1,off:=0 }) 2 2) cs1:=by
 generalize hw1:w.alloc (Obj.cells #[Value.iface 9 (Value.string { data:=#[120] })] 20)=w1
 have hz1:w1.heap.size=w.heap.size+1:=by rw[←hw1];exact alloc_sz w _
 have hx1:w1.heap[w.heap.size]?=some (Obj.cells #[Value.iface 9 (Value.string { data:=#[120] })] 20 (0,0)):=hw1▸heap_alloc_new w _
 generalize hw2:w1.alloc _=w2
 have hz2:w2.heap.size=w1.heap.size+1:=by rw[←hw2];exact alloc_sz w1 _
 have hB:Below w1.heap.size w1 w2:=hw2▸(Below.refl _ w1).alloc (Nat.le_refl _) _
 have hx2:=hw2▸heap_alloc_new w1 (Obj.cells #[Value.string { data:=#[97] },Value.iface 3 (Value.int IntKind.i64 1),Value.bool false,Value.string { data:=#[98] },Value.iface 67 (Value.slice (some { block:=w.heap.size,off:=0 }) 1 1),Value.bool false] 66)
 have hx3:=keep_at hB hx1
 rw[hz1]at hx2
 refine⟨_,2,rfl,Nat.le_refl _,fun j c hj=>?_⟩
 match j,hj with
 |0,hj =>
  obtain rfl:(kA,some (A.num 1))=c:=by simpa [cs1]using hj
  refine⟨by decide,w.heap.size+1,0,_,_,rfl,by omega,Or.inl ⟨_,_,rfl⟩,cell_at hx2 0,cell_at hx2 1,cell_at hx2 2,Or.inr ⟨_,rfl,rfl,.num 1 (by unfold In64 two63;omega)⟩⟩
 |1,hj =>
  obtain rfl:(kB,some vX)=c:=by simpa [cs1]using hj
  refine⟨by decide,w.heap.size+1,0,_,_,rfl,by omega,Or.inl ⟨_,_,rfl⟩,cell_at hx2 3,cell_at hx2 4,cell_at hx2 5,Or.inr ⟨_,rfl,rfl,?_⟩⟩
  refine AAt.list w.heap.size 0 1 1 [.str { data:=#[120] }] (fun _=>.iface 9 (.string { data:=#[120] })) rfl trivial (by omega) (Nat.le_refl _) (by omega) (fun i x hi=>?_) (fun i x hi=>?_)
  ·match i,hi with
   |0,_=>exact cell_at hx3 0
   |i+1,hi=>simp at hi
  ·match i,hi with
   |0,hi =>
    obtain rfl:A.str { data:=#[120] }=x:=by simpa using hi
    exact .str _ (by decide)
   |i+1,hi=>simp at hi
 |j+2,hj=>simp[cs1]at hj
theorem chRow2(w:World):ChRow (w.alloc (Obj.cells #[Value.string { data:=#[97] },Value.nilIface,Value.bool true] 66)) (Value.slice (some { block:=w.heap.size,off:=0 }) 1 1) cs2:=by
 have hx:=heap_alloc_new w (Obj.cells #[Value.string { data:=#[97] },Value.nilIface,Value.bool true] 66)
 refine⟨_,1,rfl,Nat.le_refl _,fun j c hj=>?_⟩
 match j,hj with
 |0,hj =>
  obtain rfl:(kA,none)=c:=by simpa [cs2]using hj
  exact⟨by decide,w.heap.size,0,_,_,rfl,by rw[alloc_sz];omega,Or.inr rfl,cell_at hx 0,cell_at hx 1,cell_at hx 2,Or.inl ⟨rfl,rfl⟩⟩
 |j+1,hj=>simp[cs2]at hj
theorem chRow3(w:World)(u:Value):ChRow (w.alloc (Obj.cells #[Value.string { data:=#[99] },Value.iface 68 u,Value.bool false] 66)) (Value.slice (some { block:=w.heap.size,off:=0 }) 1 1) cs3:=by
 have hx:=heap_alloc_new w (Obj.cells #[Value.string { data:=#[99] },Value.iface 68 u,Value.bool false] 66)
 refine⟨_,1,rfl,Nat.le_refl _,fun j c hj=>?_⟩
 match j,hj with
 |0,hj =>
  obtain rfl:(kC,some A.odd)=c:=by simpa [cs3]using hj
  exact⟨by decide,w.heap.size,0,_,_,rfl,by rw[alloc_sz];omega,Or.inl ⟨_,_,rfl⟩,cell_at hx 0,cell_at hx 1,cell_at hx 2,Or.inr ⟨_,rfl,rfl,.odd _⟩⟩
 |j+1,hj=>simp[cs3]at hj
theorem gB_of:cs2.foldl chF (cs1.foldl chF fun _=>none)=gB:=by
 funext k
 unfold cs1 cs2 gB
 simp only[List.foldl_cons,List.foldl_nil,chF]
 by_cases h1:k=kA
 ·subst h1
  rw[if_pos rfl,if_neg (by decide)]
 ·rw[if_neg h1]
  by_cases h2:k=kB
  ·rw[if_pos h2,if_pos h2]
  ·rw[if_neg h2,if_neg h2,if_neg h1]
theorem gB_rises:RisesA gB (fun _=>true) [kB]:=by
 refine⟨List.pairwise_singleton _ _,fun k=>?_⟩
 unfold gB
 by_cases h:k=kB
 ·subst h;simp
 ·simp[h]
theorem hsz1:∀c∈cs1,∀a,c.2=some a→sz a 2≤1000000000000:=by
 intro c hc a ha
 simp only[cs1,List.mem_cons,List.not_mem_nil,or_false]at hc
 rcases hc with rfl | rfl
 ·obtain rfl:=Option.some.inj ha;decide +kernel
 ·obtain rfl:=Option.some.inj ha;decide +kernel
theorem hok1:∀c∈cs1,∀a,c.2=some a→okA a:=by
 intro c hc a ha
 simp only[cs1,List.mem_cons,List.not_mem_nil,or_false]at hc
 rcases hc with rfl | rfl
 ·obtain rfl:=Option.some.inj ha;simp only[okA];unfold In64 two63;omega
 ·obtain rfl:=Option.some.inj ha;simp[vX,okA,okAs]
theorem hk1:∀c∈cs1,c.1.size≤65535:=by
 intro c hc
 simp only[cs1,List.mem_cons,List.not_mem_nil,or_false]at hc
 rcases hc with rfl | rfl <;> decide
theorem vX_at{w:World}{b:Nat}(hx:w.heap[b]?=some (Obj.cells #[Value.iface 9 (Value.string { data:=#[120] })] 20 (0,0)))(hz:w.heap.size=b+1):Has w (.iface 67 (.slice (some { block:=b,off:=0 }) 1 1)) vX:=by
 refine AAt.list b 0 1 1 [.str { data:=#[120] }] (fun _=>.iface 9 (.string { data:=#[120] })) rfl trivial (by omega) (Nat.le_refl _) (by omega) (fun i x hi=>?_) (fun i x hi=>?_)
 ·match i,hi with
  |0,_=>exact cell_at hx 0
  |i+1,hi=>simp at hi
 ·match i,hi with
  |0,hi =>
   obtain rfl:A.str { data:=#[120] }=x:=by simpa using hi
   exact .str _ (by decide)
  |i+1,hi=>simp at hi
set_option maxRecDepth 100000 in
set_option maxHeartbeats 2000000 in
theorem wake_of(HJ:Jour base JS good tx apE apS anE anS)(HG:Goes good apE apS anE anS)(dk:Sg→Addr)(reS:Sg→Sg)(w:World)(hbase:base=w.heap.size)
  (HNEW:∀W,Below base w W→∃s0 s1 s2 s3,Calls Tryz.prog 23 #[.int .i64 32] W (DNewQ JS (fun _ dp=>dp=dk s0) s0 W)∧Exam base JS good tx apE apS anE anS dk reS s0 s1 s2 s3) :
  Calls Tryz.prog 5 #[] w fun e w'=>e=.returned (.bool true)∧Below w.heap.size w w':=by
 subst hbase
 go_enter Tryz.func5,Tryz.ntmps5
 obtain⟨s0,s1,s2,s3,hnew,HE⟩:=HNEW w (Below.refl _ _)
 have HMD:=Lib.hid (made_any HJ _ 32 s0 w hnew HE.hg HE.ht (Nat.le_refl _))
 clear HNEW hnew
 go_wp2_with fail
 refine HMD.out.mono ?_
 rintro e w4 ⟨O,S,sb,b,nn,jp,dp,rfl,hn4,hst,hb4,hds,hft⟩
 subst hds
 have HV4:Hid (Live w.heap.size JS good sb jp 765000 w w4 s0 (fun _=>none)):=Lib.hid ⟨⟨O,S,b,nn,hst,hn4⟩,HE.hg,small_none,fine_none,hb4⟩
 clear hst hb4 hn4 hft HMD
 go_wp2_with fail
 have hB5:=((Below.refl w4.heap.size w4).alloc (Nat.le_refl _) (Obj.cells #[Value.iface 9 (Value.string { data:=#[120] })] 20)).alloc (by rw[alloc_sz];omega) (Obj.cells #[Value.string { data:=#[97] },Value.iface 3 (Value.int IntKind.i64 1),Value.bool false,Value.string { data:=#[98] },Value.iface 67 (Value.slice (some { block:=w4.heap.size,off:=0 }) 1 1),Value.bool false] 66)
 have hV5:=HV4.out.more HJ HV4.out.below.size hB5
 refine(hV5.commit HJ HG hV5.below.size (by omega) _ cs1 (chRow1 w4) (by decide) (fun c hc a ha=>?_) (fun c hc a ha=>?_) (fun c hc=>?_) (by decide +kernel) HE.e1).mono ?_
 ·exact hsz1 c hc a ha
 ·exact hok1 c hc a ha
 ·exact hk1 c hc
 rintro e w5 ⟨rfl,hV⟩
 rw[HE.h1]at hV
 have HV5:=Lib.hid hV
 clear hV hV5 hB5 HV4
 go_wp2_with fail
 have hV5b:=HV5.out.more HJ HV5.out.below.size ((Below.refl w5.heap.size w5).alloc (Nat.le_refl _) (Obj.cells #[Value.string { data:=#[97] },Value.nilIface,Value.bool true] 66))
 refine(hV5b.commit HJ HG hV5b.below.size (by omega) _ cs2 (chRow2 w5) (by decide) (fun c hc a ha=>?_) (fun c hc a ha=>?_) (fun c hc=>?_) (by decide +kernel) HE.e2).mono ?_
 ·obtain rfl:=List.mem_singleton.1 hc;cases ha
 ·obtain rfl:=List.mem_singleton.1 hc;cases ha
 ·obtain rfl:=List.mem_singleton.1 hc;decide
 rintro e w6 ⟨rfl,hV⟩
 rw[HE.h2,gB_of]at hV
 have HV6:=Lib.hid hV
 clear hV hV5b HV5
 go_wp2_with fail
 have hV6b:=HV6.out.more HJ HV6.out.below.size ((Below.refl w6.heap.size w6).alloc (Nat.le_refl _) (Obj.cells #[Value.string { data:=#[99] },Value.iface 68 (Value.float .f64 4609434218613702656),Value.bool false] 66))
 refine(hV6b.commit_no HJ hV6b.below.size (by omega) _ cs3 (chRow3 w6 _) (by decide) (fun c hc a ha=>?_) (fun c hc=>?_) (by decide +kernel)).mono ?_
 ·obtain rfl:=List.mem_singleton.1 hc
  obtain rfl:=Option.some.inj ha;decide +kernel
 ·obtain rfl:=List.mem_singleton.1 hc;decide
 rintro e w7 ⟨rfl,hV⟩
 rw[show er (trA cs3) 0=9 by decide +kernel]
 have HV7:=Lib.hid hV
 clear hV hV6b HV6
 go_wp2_with fail
 refine(HV7.out.compact HJ HG HV7.out.below.size (by omega) [kB] gB_rises HE.e3).mono ?_
 rintro e w8 ⟨rfl,O8,S8,b8,n8,hst8,hV⟩
 rw[HE.h3]at hV hst8
 have HV8:=Lib.hid hV
 have HAG:=Lib.hid (again_any HJ O8 (dk s3) (reS s3) gB w8 (HE.re O8 w8 jp hst8.jour) HE.rg HE.op HV8.out.below.size)
 rw[HE.hd]at HAG
 clear hV hst8 HV7
 go_wp2_with fail
 refine HAG.out.mono ?_
 rintro e w9 ⟨O9,S9,sb9,b9,n9,jp9,rfl,hn9,hst9,hb9,hft9⟩
 have HV9:Hid (Live w.heap.size JS good sb9 jp9 765000 w w9 (reS s3) gB):=Lib.hid ⟨⟨O9,S9,b9,n9,hst9,hn9⟩,HE.rg,HV8.out.small,HV8.out.fine,HV8.out.below.trans (hb9.mono HV8.out.below.size)⟩
 have HFN:=Lib.hid HV8.out.fine
 have HGB:=Lib.hid (get_any kB (by decide) sb9 b9 n9 (some jp9) S9 gB w9 hst9.at_ hst9.map (fun a ha=>sm_of_er a 2 (HV8.out.fine kB a ha)))
 rw[show gB kB=some vX from if_pos rfl]at HGB
 clear hst9 hb9 hft9 hn9 HAG HV8
 go_wp2_with fail
 refine HGB.out.mono ?_
 rintro e w10 ⟨zv,rfl,hz,hb10⟩
 have HZ:=Lib.hid (hz _ rfl)
 have HV10:=Lib.hid (HV9.out.more HJ HV9.out.below.size hb10)
 obtain⟨O10,S10,b10,n10,hst10,hn10⟩:=HV10.out.ex
 have HGA:=Lib.hid (get_any kA (by decide) sb9 b10 n10 (some jp9) S10 gB w10 hst10.at_ hst10.map (fun a ha=>sm_of_er a 2 (HFN.out kA a ha)))
 rw[show gB kA=none from if_neg (by decide)]at HGA
 clear hst10 hn10 hb10 hz HGB HV9
 go_wp2_with fail
 refine HGA.out.mono ?_
 rintro e w11 ⟨yv,rfl,_,hb11⟩
 have HZ11:=Lib.hid (HZ.out.below hb11)
 have HV11:=Lib.hid (HV10.out.more HJ HV10.out.below.size hb11)
 clear hb11 HGA HV10 HZ
 go_wp2_with fail
 obtain⟨W12,hW12⟩:∃W,w11.alloc (Obj.cells #[Value.iface 9 (Value.string { data:=#[120] })] 20)=W:=⟨_,rfl⟩
 have hb12:Below w11.heap.size w11 W12:=hW12▸(Below.refl _ w11).alloc (Nat.le_refl _) _
 have hx12:W12.heap[w11.heap.size]?=some (Obj.cells #[Value.iface 9 (Value.string { data:=#[120] })] 20 (0,0)):=hW12▸heap_alloc_new w11 _
 have hz12:W12.heap.size=w11.heap.size+1:=by rw[←hW12];exact alloc_sz w11 _
 rw[hW12]
 have HSM:=Lib.hid (same_any vX vX zv (.iface 67 (.slice (some { block:=w11.heap.size,off:=0 }) 1 1)) W12 (HZ11.out.below hb12) (vX_at hx12 hz12) (by decide +kernel) (by decide +kernel))
 rw[show sameB vX vX=true by decide +kernel]at HSM
 have HV12:=Lib.hid (HV11.out.more HJ HV11.out.below.size hb12)
 clear hb12 hx12 hz12 hW12 HV11 HZ11
 refine HSM.out.mono ?_
 rintro e w13 ⟨rfl,hb13⟩
 have HV13:=Lib.hid (HV12.out.more HJ HV12.out.below.size hb13)
 obtain⟨O13,S13,b13,n13,hst13,hn13⟩:=HV13.out.ex
 have HKY:=Lib.hid (keysL_any { data:=#[] } sb9 b13 n13 (some jp9) S13 gB (by omega) w13 hst13.at_ hst13.map)
 clear hst13 hn13 hb13 HSM HV12
 go_wp2_with fail
 refine HKY.out.mono ?_
 rintro e w14 ⟨kv,ks,rfl,hko,hks,_,hb14⟩
 have hr:RisesA gB (fun _=>true) ks:=⟨hks.1,fun s=>by rw[hks.2 s];simp only[begB_none]⟩
 obtain rfl:=hr.unique gB_rises
 have HB14:=Lib.hid (HV13.out.below.trans (hb14.mono HV13.out.below.size))
 obtain⟨kp,kc,rfl,hkc,_⟩:=hko.strs
 clear hr hko hks hb14 HKY
 go_wp2
 go_ret
 exact⟨rfl,HB14.out⟩
end
end Go.Proofs.YtlogjpmdfimgdaaGreatDoor

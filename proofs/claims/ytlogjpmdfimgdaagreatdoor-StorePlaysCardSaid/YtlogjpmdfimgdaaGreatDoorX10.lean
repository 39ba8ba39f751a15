/- The document's pairs in memory; its Keys (f14). | The document's pairs behind a change, plainly. | A row of the document's pairs of the call's own, under way. | A whole row of the document's pairs appended to an empty one. | A pair built of a change and appended to a row of the document's pairs, in a region that is drawn. No condition. | The document's told, whatever the depth of what is asked few: by contract; its Print. No condition but that the value is small enough. | The document's values in blocks and rows of the call's own. No condition. -/
import Derived.Test.YtlogjpmdfimgdaaGreatDoorX09
import Derived.Test.YtlogjpmdfimgdaaGreatDoorX08
namespace Go.Proofs.YtlogjpmdfimgdaaGreatDoor
open Go Go.RowKit Go.Own Go.Own.Fr Go.Maps Go.WideMaps
abbrev Pr:=ByteArray×V
def PRow(w:World)(v:Value)(D:List Pr):Prop :=
 ∃p cap,v=.slice p D.length cap∧D.length≤cap∧∀(j:Nat) (x:Pr),D[j]?=some x→∃b o c0 c1 c2 c3 c4,p=some ⟨b,o,none⟩∧b<w.heap.size∧x.1.size≤9223372036854775807 ∧
  w.cell? ⟨b,o+j*6,none⟩=some (.string x.1)∧w.cell? ⟨b,o+j*6+1,none⟩=some c0∧w.cell? ⟨b,o+j*6+2,none⟩=some c1∧w.cell? ⟨b,o+j*6+3,none⟩=some c2∧w.cell? ⟨b,o+j*6+4,none⟩=some c3∧w.cell? ⟨b,o+j*6+5,none⟩=some c4∧Holds w (.agg #[c0,c1,c2,c3,c4]) x.2
theorem PRow.below{w w':World}{v:Value}{D:List Pr}(h:PRow w v D)(hB:Below w.heap.size w w'):PRow w' v D:=by
 obtain⟨p,cap,h1,h2,h3⟩:=h
 refine⟨p,cap,h1,h2,fun j x hx=>?_⟩
 obtain⟨b,o,c0,c1,c2,c3,c4,e1,e2,e3,g0,g1,g2,g3,g4,g5,g6⟩:=h3 j x hx
 exact⟨b,o,c0,c1,c2,c3,c4,e1,Nat.lt_of_lt_of_le e2 hB.size,e3,(hB.cell e2).trans g0,(hB.cell e2).trans g1,(hB.cell e2).trans g2,(hB.cell e2).trans g3,(hB.cell e2).trans g4,(hB.cell e2).trans g5,g6.below hB⟩
def RKeysQ(D:List Pr)(p:ByteArray)(w:World)(e:Ending)(w':World):Prop :=
 ∃v,e=.returned v∧OwnS w' w.heap.size v ((D.map Prod.fst).filter (begB · p))∧Below w.heap.size w w'
set_option maxRecDepth 100000 in
set_option maxHeartbeats 2000000 in
theorem rkeys_any(D:List Pr)(v:Value)(pre:ByteArray)(w:World)(h:PRow w v D)(hl:D.length≤900000):Calls Tryz.prog 14 #[v,.string pre] w (RKeysQ D pre w):=by
 obtain⟨p,cap,rfl,hcap,hrow⟩:=h
 obtain⟨n,hn⟩:∃n,D.length=n:=⟨_,rfl⟩
 have HN:=Lib.hid hn
 have HRW:=Lib.hid hrow
 rw[hn]at hcap hl ⊢
 clear hn hrow
 go_enter Tryz.func14,Tryz.ntmps14
 go_wp2
 go_loopw [5,6] (fun v i wr=>∃(j:Nat),j≤n∧i=.int .i64 (j:Int)∧Hid (OwnS wr w.heap.size v (((D.map Prod.fst).take j).filter (begB · pre)))∧Hid (Below w.heap.size w wr)) (fun _ i _=>n-(intOf i).toNat)
 case atStart=>exact⟨0,Nat.zero_le _,rfl,Lib.hid (OwnS.nil _ _),Lib.hid (Below.refl _ _)⟩
 case round =>
  obtain⟨j3,hj3,rfl,HO3,HB3'⟩:=hrel
  by_cases hlt3:j3<n
  ·have hlti3:(j3:Int)<(n:Int):=by omega
   obtain⟨x,hx⟩:∃x,D[j3]?=some x:=⟨D[j3]'(by have:=HN.out;omega),List.getElem?_eq_getElem _⟩
   obtain⟨b8,o8,c0,c1,c2,c3,c4,rfl,hb8,hxz,d8,_⟩:=HRW.out j3 x hx
   have dd:=(HB3'.out.cell (p:=⟨b8,o8+j3*6,none⟩) hb8).trans d8
   have HX:Hid ((D.map Prod.fst)[j3]?=some x.1):=Lib.hid (by rw[List.getElem?_map,hx];rfl)
   clear hx d8
   by_cases hps:pre.size≤x.1.size
   ·have hpsi:(pre.size:Int)≤(x.1.size:Int):=by omega
    by_cases hpe:x.1.extract 0 pre.size=pre
    ·have hq3:((x.1.extract 0 pre.size).toList == pre.toList)=true:=by rw[hpe];exact beq_self_eq_true _
     have hbg:begB x.1 pre=true:=decide_eq_true ⟨hps,hpe⟩
     have hfl:(((D.map Prod.fst).take j3).filter (begB · pre)).length≤j3:=Nat.le_trans (List.length_filter_le _ _) (by rw[List.length_take];omega)
     have HFL:=Lib.hid hfl
     have HTK:Hid (((D.map Prod.fst).take (j3+1)).filter (begB · pre)=((D.map Prod.fst).take j3).filter (begB · pre)++[x.1]):=Lib.hid (by
      rw[take_get HX.out,List.filter_append,List.filter_cons_of_pos (by rw[hbg]),List.filter_nil])
     clear hbg hpe hfl
     go_wp2_with (first | (at_builtin;refine wpList_str rfl (.tmp 34) (.tmp 40) rfl wr w.heap.size u5 _ x.1 rfl rfl HO3.out rfl (by have:=HFL.out;omega) HB3'.out.size ?_) | fail)
     intro v5 w5' hO5 _ hB5'
     have HO5:Hid (OwnS w5' w.heap.size v5 (((D.map Prod.fst).take (j3+1)).filter (begB · pre))):=Lib.hid (by rw[HTK.out];exact hO5)
     have HB5':Hid (Below w.heap.size w w5'):=Lib.hid (HB3'.out.trans hB5')
     clear hO5 hB5'
     go_wp2
     go_roundw
     case rel=>exact⟨j3+1,by omega,by go_num,HO5,HB5'⟩
     case measure=>simp[intOf];omega
    ·have hq3:((x.1.extract 0 pre.size).toList == pre.toList)=false:=strs_ff hpe
     have hbg:begB x.1 pre=false:=decide_eq_false fun h=>hpe h.2
     have HO4:Hid (OwnS wr w.heap.size u5 (((D.map Prod.fst).take (j3+1)).filter (begB · pre))):=Lib.hid (by
      rw[take_get HX.out,List.filter_append,List.filter_cons_of_neg (by rw[hbg];decide),List.filter_nil,List.append_nil]
      exact HO3.out)
     clear hbg hpe
     go_wp2
     go_roundw
     case rel=>exact⟨j3+1,by omega,by go_num,HO4,HB3'⟩
     case measure=>simp[intOf];omega
   ·have hpsi:¬(pre.size:Int)≤(x.1.size:Int):=by omega
    have hbg:begB x.1 pre=false:=decide_eq_false fun h=>hps h.1
    have HO4:Hid (OwnS wr w.heap.size u5 (((D.map Prod.fst).take (j3+1)).filter (begB · pre))):=Lib.hid (by
     rw[take_get HX.out,List.filter_append,List.filter_cons_of_neg (by rw[hbg];decide),List.filter_nil,List.append_nil]
     exact HO3.out)
    clear hbg hps
    go_wp2
    go_roundw
    case rel=>exact⟨j3+1,by omega,by go_num,HO4,HB3'⟩
    case measure=>simp[intOf];omega
  ·obtain rfl:j3=n:=by omega
   have HOS:Hid (OwnS wr w.heap.size u5 ((D.map Prod.fst).filter (begB · pre))):=Lib.hid (by
    have h:=HO3.out
    rwa [List.take_of_length_le (by rw[List.length_map,HN.out];exact Nat.le_refl _)]at h)
   go_wp2
   go_ret
   exact⟨_,rfl,HOS.out,HB3'.out⟩
section
variable{Sg:Type}{base:Nat}{JS:(Nat→Prop)→World→Addr→Sg→Prop}{good:Sg→Prop}{tx:Sg→List (List Nat)}{apE:Sg→List Nat→Int}{apS:Sg→List Nat→Sg}{anE:Sg→List (List Nat)→Int}{anS:Sg→List (List Nat)→Sg}
structure Pairs(g:ByteArray→Option A)(D:List Pr):Prop where
 keys:RisesA g (fun _=>true) (D.map Prod.fst)
 vals:∀x∈D,g x.1=some (ofV x.2)∧fewV x.2 1=true
set_option maxRecDepth 100000 in
set_option maxHeartbeats 4000000 in
theorem tells_any(HJ:Jour base JS good tx apE apS anE anS){sb M:Nat}{jp:Addr}{w0 w:World}{s:Sg}{g:ByteArray→Option A}(H:Live base JS good sb jp M w0 w s g)(hbw:base≤w.heap.size)(hM:M≤1000000)(D:List Pr)(v:Value)(hD:PRow w v D)(hl:D.length≤900000)(hP:Pairs g D) :
  Calls Tryz.prog 11 #[.pointer (some ⟨sb,0,none⟩),v] w fun e w'=>e=.returned (.bool true)∧Below w.heap.size w w':=by
 obtain⟨p,cap,rfl,hcap,hrow⟩:=id hD
 obtain⟨n,hn⟩:∃n,D.length=n:=⟨_,rfl⟩
 have HN:=Lib.hid hn
 have HRW:=Lib.hid hrow
 have HD:=Lib.hid hD
 have HV:=Lib.hid H
 have HP:=Lib.hid hP
 have hl0:=hl
 rw[hn]at hcap hl HD ⊢
 clear hn hrow hD H hP
 obtain⟨O1,S1,b1,n1,hst1,hn1⟩:=HV.out.ex
 have HK:=Lib.hid (keysL_any { data:=#[] } sb b1 n1 (some jp) S1 g (by omega) w hst1.at_ hst1.map)
 clear hst1 hn1
 go_enter Tryz.func11,Tryz.ntmps11
 go_wp2_with fail
 refine HK.out.mono ?_
 rintro e w1 ⟨kv,ks,rfl,hko,hks,_,hb1⟩
 have hr:RisesA g (fun _=>true) ks:=⟨hks.1,fun s=>by rw[hks.2 s];simp only[begB_none]⟩
 have heq:=hr.unique HP.out.keys
 have HRK:=Lib.hid (rkeys_any D _ { data:=#[] } w1 (HD.out.below hb1) hl0)
 have HSK:=Lib.hid hko.strs
 have HLK:=Lib.hid hko.len
 have HEQ:=Lib.hid heq
 have HB1:=Lib.hid hb1
 clear hko hks hb1 hr heq HK
 go_wp2_with fail
 refine HRK.out.mono ?_
 rintro e w2 ⟨rv,rfl,hrv,hb2⟩
 rw[show (D.map Prod.fst).filter (begB · { data:=#[] })=D.map Prod.fst from List.filter_eq_self.2 fun x _=>begB_none x]at hrv
 have HTX:=Lib.hid (texts_any ks (D.map Prod.fst) kv rv w2 (HSK.out.below hb2) hrv.strs HLK.out hrv.len)
 rw[show sameL ks (D.map Prod.fst)=true from decide_eq_true HEQ.out]at HTX
 have HB2:=Lib.hid (HB1.out.trans (hb2.mono HB1.out.size))
 clear hrv hb2 HRK
 go_wp2_with fail
 refine HTX.out.mono ?_
 rintro e w3 ⟨rfl,hb3⟩
 have HB3:=Lib.hid (HB2.out.trans (hb3.mono HB2.out.size))
 clear hb3 HTX HB1 HB2 HLK HSK HEQ
 go_wp2
 go_loopw [6] (fun i wr=>∃(j:Nat),j≤n∧i=.int .i64 (j:Int)∧Hid (Below w.heap.size w wr)) (fun i _=>n-(intOf i).toNat)
 case atStart=>exact⟨0,Nat.zero_le _,rfl,HB3⟩
 case round =>
  obtain⟨j,hj,rfl,HB⟩:=hrel
  by_cases hlt:j<n
  ·have hlti:(j:Int)<(n:Int):=by omega
   obtain⟨x,hx⟩:∃x,D[j]?=some x:=⟨D[j]'(by have:=HN.out;omega),List.getElem?_eq_getElem _⟩
   obtain⟨p',cap',e',_,hrow⟩:=HD.out.below HB.out
   simp only[Value.slice.injEq]at e'
   obtain⟨rfl,hnn,rfl⟩:=e'
   clear hnn
   obtain⟨bb,oo,c0,c1,c2,c3,c4,rfl,hbb,hxz,d0,d1,d2,d3,d4,d5,d6⟩:=hrow j x hx
   obtain⟨hgx,hfx⟩:=HP.out.vals x (List.mem_of_getElem? hx)
   have HVr:=Lib.hid (HV.out.more HJ hbw HB.out)
   have HFX:=Lib.hid hfx
   have HER:=Lib.hid (HVr.out.fine x.1 _ hgx)
   obtain⟨O',S',b',n',hst,hn'⟩:=HVr.out.ex
   have HGT:=Lib.hid (get_any x.1 (by have:=HVr.out.small.key x.1 (by rw[hgx];rfl);unfold maxLen;omega) sb b' n' (some jp) S' g wr hst.at_ hst.map (fun a ha=>sm_of_er a 2 (HVr.out.fine x.1 a ha)))
   rw[hgx]at HGT
   have HD6:=Lib.hid d6
   have HBB:=Lib.hid hbb
   clear hrow hx hgx hfx hst hn' d6
   go_wp2_with fail
   refine HGT.out.mono ?_
   rintro e w5 ⟨zv,rfl,hz,hb5⟩
   have HZ:=Lib.hid (hz _ rfl)
   have HB5:=Lib.hid (HB.out.trans (hb5.mono HB.out.size))
   have e1:=(hb5.cell (p:=⟨bb,oo+j*6+1,none⟩) hbb).trans d1
   have e2:=(hb5.cell (p:=⟨bb,oo+j*6+2,none⟩) hbb).trans d2
   have e3:=(hb5.cell (p:=⟨bb,oo+j*6+3,none⟩) hbb).trans d3
   have e4:=(hb5.cell (p:=⟨bb,oo+j*6+4,none⟩) hbb).trans d4
   have e5:=(hb5.cell (p:=⟨bb,oo+j*6+5,none⟩) hbb).trans d5
   have HOF:=Lib.hid (of_any x.2 1 _ w5 HFX.out (HD6.out.below hb5))
   clear hz hb5 d0 d1 d2 d3 d4 d5 HGT
   go_wp2_with fail
   refine HOF.out.mono ?_
   rintro e w6 ⟨rv,rfl,hrv,hb6⟩
   have HSM:=Lib.hid (same_any (ofV x.2) (ofV x.2) zv rv w6 (HZ.out.below hb6) (AAt.keep hrv (fun _ _ _=>trivial) (Nat.le_refl _) (fun _ _ _=>rfl)) (by rw[sz_zero _ HER.out];have:=sz_two x.2 HFX.out;omega) (by rw[sz_zero _ HER.out];have:=sz_two x.2 HFX.out;omega))
   rw[show sameB (ofV x.2) (ofV x.2)=true by unfold sameB;rw[decide_eq_true (er_two _ HER.out),decide_eq_true rfl];rfl]at HSM
   have HB6:=Lib.hid (HB5.out.trans (hb6.mono HB5.out.size))
   clear hrv hb6 HOF e1 e2 e3 e4 e5
   go_wp2_with fail
   refine HSM.out.mono ?_
   rintro e w7 ⟨rfl,hb7⟩
   have HB7:=Lib.hid (HB6.out.trans (hb7.mono HB6.out.size))
   clear hb7
   go_wp2
   go_roundw
   case rel=>exact⟨j+1,by omega,by go_num,HB7⟩
   case measure=>simp[intOf];omega
  ·obtain rfl:j=n:=by omega
   go_wp2
   go_ret
   exact⟨rfl,HB.out⟩
end
end Go.Proofs.YtlogjpmdfimgdaaGreatDoor
namespace Go.Proofs.YtlogjpmdfimgdaaGreatDoor
open Go Go.RowKit Go.Own Go.Own.Fr Go.Maps Go.WideMaps
def leB(a b:ByteArray):Bool:=Op.bytesLess a.toList b.toList||(a.toList == b.toList)
abbrev Lt(a b:ByteArray):Prop:=a.data.toList<b.data.toList
theorem eq_of_lists{a b:ByteArray}(h:a.data.toList=b.data.toList):a=b:=by
 cases a;cases b;simpa using h
theorem leB_false{a b:ByteArray}(h:leB a b=false):Lt b a:=by
 unfold leB at h
 rw[Bool.or_eq_false_iff,bytesLess_eq,ByteArray.toList_eq,ByteArray.toList_eq]at h
 have h1:=of_decide_eq_false h.1
 have h2:¬a.data.toList=b.data.toList:=fun e=>by simp[e]at h
 by_cases h3:b.data.toList<a.data.toList
 ·exact h3
 ·exact absurd (List.le_antisymm (List.not_lt.1 h3) (List.not_lt.1 h1)) h2
theorem leB_true{a b:ByteArray}(h:leB a b=true)(hne:b≠a):Lt a b:=by
 unfold leB at h
 rw[Bool.or_eq_true,bytesLess_eq,ByteArray.toList_eq,ByteArray.toList_eq]at h
 rcases h with h | h
 ·exact of_decide_eq_true h
 ·exact absurd (eq_of_lists (eq_of_beq h)).symm hne
def lay1(k:ByteArray)(v:V):List Pr→Bool→List Pr
 | [],done=>if done then []else [(k,v)]
 |x :: r,done=>(if !done&&leB k x.1 then [(k,v)]else [])++(if x.1=k then []else [x])++lay1 k v r (done||leB k x.1)
theorem lay1_mem(k:ByteArray)(v:V)(y:Pr):∀(D:List Pr) (done:Bool),y∈lay1 k v D done↔(y∈D∧y.1≠k)∨(y=(k,v)∧done=false)
 | [],done=>by
  unfold lay1
  cases done <;> simp
 |x :: r,done=>by
  unfold lay1
  rw[List.mem_append,List.mem_append,lay1_mem k v y r]
  by_cases hx:x.1=k
  ·have hn:∀h:y=x,¬y.1≠k:=fun h h2=>h2 (h▸hx)
   cases done <;> cases leB k x.1 <;> simp[hx] <;> grind
  ·cases done <;> cases leB k x.1 <;> simp[hx] <;> grind
theorem lay1_rises(k:ByteArray)(v:V):∀(D:List Pr) (done:Bool),(D.map Prod.fst).Pairwise Lt→((lay1 k v D done).map Prod.fst).Pairwise Lt
 | [],done,_=>by
  unfold lay1
  cases done <;> simp
 |x :: r,done,h=>by
  obtain⟨h1,h2⟩:=List.pairwise_cons.1 h
  have ih:=lay1_rises k v r (done||leB k x.1) h2
  have hmem:∀z∈(lay1 k v r (done||leB k x.1)).map Prod.fst,(z∈r.map Prod.fst∧z≠k)∨(z=k∧(done||leB k x.1)=false):=fun z hz=>by
   obtain⟨y,hy,rfl⟩:=List.mem_map.1 hz
   rcases(lay1_mem k v y r _).1 hy with⟨a,b⟩ | ⟨a,b⟩
   ·exact Or.inl ⟨List.mem_map.2 ⟨y,a,rfl⟩,b⟩
   ·exact Or.inr ⟨by rw[a],b⟩
  have hmid:(((if x.1=k then []else [x])++lay1 k v r (done||leB k x.1)).map Prod.fst).Pairwise Lt:=by
   by_cases hx:x.1=k
   ·rw[if_pos hx];exact ih
   ·rw[if_neg hx]
    refine List.pairwise_cons.2 ⟨fun z hz=>?_,ih⟩
    rcases hmem z hz with⟨a,_⟩ | ⟨a,b⟩
    ·exact h1 z a
    ·rw[a];exact leB_false (Bool.or_eq_false_iff.1 b).2
  unfold lay1
  rw[List.append_assoc]
  by_cases hc:(!done&&leB k x.1)=true
  ·rw[if_pos hc]
   obtain⟨hd,hle⟩:=(Bool.and_eq_true_iff ..).1 hc
   refine List.pairwise_cons.2 ⟨fun z hz=>?_,hmid⟩
   have hz2:z∈((if x.1=k then []else [x])++lay1 k v r (done||leB k x.1)).map Prod.fst:=hz
   rw[List.map_append,List.mem_append]at hz2
   clear hz
   rcases hz2 with hz | hz
   ·by_cases hx:x.1=k
    ·rw[if_pos hx]at hz;cases hz
    ·rw[if_neg hx]at hz
     obtain rfl:z=x.1:=by simpa using hz
     exact leB_true hle hx
   ·rcases hmem z hz with⟨a,b⟩ | ⟨_,b⟩
    ·have h3:=h1 z a
     by_cases hx:x.1=k
     ·rw[←hx];exact h3
     ·exact List.lt_trans (leB_true hle hx) h3
    ·rw[hle,Bool.or_true]at b;cases b
  ·rw[if_neg hc];exact hmid
def layC(D:List Pr)(c:ByteArray×V×Bool):List Pr:=lay1 c.1 c.2.1 D c.2.2
theorem Pairs.lay{g:ByteArray→Option A}{D:List Pr}(h:Pairs g D)(c:ByteArray×V×Bool)(hc:fewV c.2.1 1=true):Pairs (chF g (chV c)) (layC D c):=by
 have hv:∀x∈layC D c,chF g (chV c) x.1=some (ofV x.2)∧fewV x.2 1=true:=fun x hx=>by
  rcases(lay1_mem c.1 c.2.1 x D c.2.2).1 hx with⟨a,b⟩ | ⟨a,b⟩
  ·have:=h.vals x a
   unfold chF
   rw[if_neg (show ¬x.1=(chV c).1 from b)]
   exact this
  ·subst a
   unfold chF
   rw[if_pos (show c.1=(chV c).1 from rfl)]
   unfold chV
   rw[b]
   exact⟨rfl,hc⟩
 refine⟨⟨lay1_rises _ _ _ _ h.keys.1,fun s=>?_⟩,hv⟩
 constructor
 ·intro hs
  obtain⟨y,hy,rfl⟩:=List.mem_map.1 hs
  exact⟨by rw[(hv y hy).1];rfl,rfl⟩
 ·rintro⟨hs,_⟩
  by_cases hk:s=c.1
  ·subst hk
   unfold chF at hs
   rw[if_pos (show c.1=(chV c).1 from rfl)]at hs
   unfold chV at hs
   have hg:c.2.2=false:=by
    cases hb:c.2.2 with
    |false=>rfl
    |true=>rw[hb]at hs;cases hs
   exact List.mem_map.2 ⟨(c.1,c.2.1),(lay1_mem _ _ _ _ _).2 (Or.inr ⟨rfl,hg⟩),rfl⟩
  ·unfold chF at hs
   rw[if_neg (show ¬s=(chV c).1 from hk)]at hs
   obtain⟨y,hy,rfl⟩:=List.mem_map.1 ((h.keys.2 s).2 ⟨hs,rfl⟩)
   exact List.mem_map.2 ⟨y,(lay1_mem _ _ _ _ _).2 (Or.inl ⟨hy,hk⟩),rfl⟩
theorem Pairs.apply{g:ByteArray→Option A}{D:List Pr}(h:Pairs g D)(l:List (ByteArray×V×Bool))(hl:∀c∈l,fewV c.2.1 1=true):Pairs ((l.map chV).foldl chF g) (l.foldl layC D):=by
 induction l generalizing g D with
 |nil=>exact h
 |cons c r ih=>exact ih (h.lay c (hl c (by simp))) fun x hx=>hl x (by simp[hx])
theorem lay1_length(k:ByteArray)(v:V):∀(D:List Pr) (done:Bool),(lay1 k v D done).length≤D.length+1
 | [],done=>by unfold lay1;cases done <;> simp
 |x :: r,done=>by
  unfold lay1
  have h1:=lay1_length k v r (done||leB k x.1)
  have h2:done=true→(lay1 k v r true).length≤r.length:=fun _=>lay1_done k v r
  simp only[List.length_append,List.length_cons]
  cases done <;> cases hle:leB k x.1 <;> (rw[hle]at h1;simp at h1 ⊢) <;> (by_cases hx:x.1=k <;> simp[hx]) <;> (have h3:=lay1_done k v r;omega)
where
 lay1_done (k:ByteArray) (v:V):∀(D:List Pr),(lay1 k v D true).length≤D.length
  | []=>by unfold lay1;simp
  |x :: r=>by
   unfold lay1
   have:=lay1_done k v r
   by_cases hx:x.1=k <;> simp[hx] <;> omega
theorem layC_length(D:List Pr)(c:ByteArray×V×Bool):(layC D c).length≤D.length+1:=lay1_length _ _ _ _
end Go.Proofs.YtlogjpmdfimgdaaGreatDoor
namespace Go.Proofs.YtlogjpmdfimgdaaGreatDoor
open Go Go.RowKit Go.Own Go.Own.Fr Go.Maps Go.WideMaps
theorem info82:(Tryz.prog.info? 82).map (fun i=>(i.zero,i.size,i.bytes))=some (some (.agg #[.string { data:=#[] },.int .i64 0,.int .i64 0,.string { data:=#[] },.bool false,.slice none 0 0]),6,80):=by kernel_rfl
abbrev Cz:=Value×Value×Value×Value×Value
def Cz.agg(c:Cz):Value:=.agg #[c.1,c.2.1,c.2.2.1,c.2.2.2.1,c.2.2.2.2]
def chP(l:List (ByteArray×Cz)):List Value:=l.flatMap fun x=>[.string x.1,x.2.1,x.2.2.1,x.2.2.2.1,x.2.2.2.2.1,x.2.2.2.2.2]
theorem chP_length(l:List (ByteArray×Cz)):(chP l).length=l.length*6:=by
 induction l with
 |nil=>rfl
 |cons x r ih =>
  have e:chP (x :: r)=[.string x.1,x.2.1,x.2.2.1,x.2.2.2.1,x.2.2.2.2.1,x.2.2.2.2.2]++chP r:=rfl
  rw[e,List.length_append,ih,List.length_cons]
  simp only[List.length_cons,List.length_nil]
  omega
theorem chP_get:∀(l:List (ByteArray×Cz)) (j:Nat) (x:ByteArray×Cz),l[j]?=some x→(chP l)[j*6]?=some (.string x.1)∧(chP l)[j*6+1]?=some x.2.1∧(chP l)[j*6+2]?=some x.2.2.1∧(chP l)[j*6+3]?=some x.2.2.2.1∧(chP l)[j*6+4]?=some x.2.2.2.2.1∧(chP l)[j*6+5]?=some x.2.2.2.2.2
 | [],j,x,h=>by simp at h
 |y :: r,0,x,h=>by
  simp at h
  subst h
  exact⟨rfl,rfl,rfl,rfl,rfl,rfl⟩
 |y :: r,j+1,x,h=>by
  have h1:=chP_get r j x (by simpa using h)
  have e:chP (y :: r)=.string y.1 :: y.2.1 :: y.2.2.1 :: y.2.2.2.1 :: y.2.2.2.2.1 :: y.2.2.2.2.2 :: chP r:=rfl
  rw[e,show (j+1)*6=j*6+1+1+1+1+1+1 by omega,show j*6+1+1+1+1+1+1+1=(j*6+1)+1+1+1+1+1+1 by omega,show j*6+1+1+1+1+1+1+2=(j*6+2)+1+1+1+1+1+1 by omega,show j*6+1+1+1+1+1+1+3=(j*6+3)+1+1+1+1+1+1 by omega,show j*6+1+1+1+1+1+1+4=(j*6+4)+1+1+1+1+1+1 by omega,show j*6+1+1+1+1+1+1+5=(j*6+5)+1+1+1+1+1+1 by omega]
  simp only[List.getElem?_cons_succ]
  exact h1
def OwnPr(w:World)(B T:Nat)(v:Value)(D:List Pr):Prop :=
 ∃l:List (ByteArray×Cz),l.length=D.length∧w.ownsRow B 82 6 v l.length (chP l)∧∀(j:Nat) (x:ByteArray×Cz) (y:Pr),l[j]?=some x→D[j]?=some y→x.1=y.1∧y.1.size≤9223372036854775807∧VAt w (fun b=>b<T) x.2.agg y.2
theorem OwnPr.nil(w:World)(B T:Nat):OwnPr w B T (.slice none 0 0) []:=⟨[],rfl,⟨rfl,Or.inl ⟨rfl,rfl⟩⟩,fun j x y h=>by simp at h⟩
theorem VAt.under{w w':World}{B T:Nat}{v:Value}{a:V}(h:VAt w (fun b=>b<T) v a)(hT:T≤B)(hB:Below B w w'):VAt w' (fun b=>b<T) v a :=
 h.keep (fun _ h _=>h) hB.size fun b hb _=>hB.block b (Nat.lt_of_lt_of_le hb hT)
theorem cells_one{w:World}{T:Nat}{c:Cz}{a:V}(h:VAt w (fun b=>b<T) c.agg a):c.1.oneCell'=true∧c.2.1.oneCell'=true∧c.2.2.1.oneCell'=true∧c.2.2.2.1.oneCell'=true∧c.2.2.2.2.oneCell'=true:=by
 obtain⟨c0,c1,c2,c3,c4⟩:=c
 cases a with
 |mk k n s b l =>
  obtain⟨p,cap,hp⟩:=h.parts
  have:=hp.eq
  unfold Cz.agg at this
  simp only[Value.agg.injEq,Array.mk.injEq,List.cons.injEq,and_true]at this
  obtain⟨rfl,rfl,rfl,rfl,rfl⟩:=this
  exact⟨rfl,rfl,rfl,rfl,rfl⟩
theorem wpList_pair{ops:Array Oper}{rest:List Oper}{o:Oper}{a:Act}{Q:Exit→Act→World→Prop}{W:World}(hgd:o.guard=none)(s x:Operand)
  (ho:o.op=.call { callee:=.builtin .append,args:=#[s,x],argTypes:=#[32,32] }) (w:World) (B T:Nat) (hT:T≤B) (v:Value) (D:List Pr) (c:Cz) (y:Pr) (hW:W=w.alloc (.cells #[.string y.1,c.1,c.2.1,c.2.2.1,c.2.2.2.1,c.2.2.2.2] 82)) (hs:a.eval s=v) (hrow:OwnPr w B T v D)
  (hy:y.1.size≤9223372036854775807) (hv:VAt w (fun b=>b<T) c.agg y.2)
  (hx:a.eval x=.slice (some ⟨w.heap.size,0,none⟩) 1 1) (hlen:D.length+1≤1000000) (hB:B≤w.heap.size)
  (h:∀v' w',OwnPr w' B T v' (D++[y])→Below B w w'→wpList Tryz.prog ops Q rest (a.put o.dst v') w'):wpList Tryz.prog ops Q (o :: rest) a W:=by
 subst hW
 obtain⟨i0,hi,hz0,hz1,hz2⟩:=info_parts info82
 obtain⟨l,hl,hown,hval⟩:=hrow
 obtain⟨o1,o2,o3,o4,o5⟩:=cells_one hv
 refine wpList_append_own _ hgd s x 32 ho B 82 i0 _ 6 80 Tryz.underlying32 hi hz0 hz1 hz2 rfl (by decide) v l.length (chP l) hs (World.ownsRow.alloc hown _) ⟨w.heap.size,0,none⟩ 1 1 [.string y.1,c.1,c.2.1,c.2.2.1,c.2.2.2.1,c.2.2.2.2] hx rfl (fun j u hj=>by rw[hadd,Nat.zero_add,cell_new];simpa using hj) (fun u hj=>by simp at hj;rcases hj with rfl | rfl | rfl | rfl | rfl | rfl;rfl;exact o1;exact o2;exact o3;exact o4;exact o5) (by unfold maxLen;omega) (by omega) (by simp;omega) ?_
 intro v' w1 hown1 hgr _
 have hBw:Below B w w1:=((Below.refl B w).alloc hB _).grown hgr (by simp;omega) (fun k hk=>(hown.lt k hk).1)
 refine h _ w1 ⟨l++[(y.1,c)],by rw[List.length_append,List.length_append,hl];rfl,?_,fun j x z hx hz=>?_⟩ hBw
 ·unfold chP
  rw[List.flatMap_append,List.length_append]
  exact hown1
 ·by_cases hj:j<l.length
  ·rw[List.getElem?_append_left hj]at hx
   rw[List.getElem?_append_left (by omega)]at hz
   obtain⟨a1,a2,a3⟩:=hval j x z hx hz
   exact⟨a1,a2,VAt.under a3 hT hBw⟩
  ·rw[List.getElem?_append_right (by omega)]at hx
   rw[List.getElem?_append_right (by omega)]at hz
   have hj0:j-l.length=0:=by
    rcases Nat.eq_zero_or_pos (j-l.length)with h0 | h0
    ·exact h0
    ·rw[List.getElem?_eq_none (by simp;omega)]at hx;cases hx
   rw[hj0]at hx
   rw[show j-D.length=0 by omega]at hz
   simp only[List.getElem?_cons_zero,Option.some.injEq]at hx hz
   subst hx hz
   exact⟨rfl,hy,VAt.under hv hT hBw⟩
theorem OwnPr.row{w:World}{B T:Nat}{v:Value}{D:List Pr}(h:OwnPr w B T v D):PRow w v D:=by
 obtain⟨l,hl,⟨_,h2⟩,hval⟩:=h
 rcases h2 with⟨rfl,h0⟩ | ⟨g,cap,cur,rfl,hb,hg,h1,h3,h4,h5⟩
 ·have hD:D=[]:=List.eq_nil_of_length_eq_zero (by omega)
  subst hD
  exact⟨none,0,rfl,Nat.le_refl _,fun j x hx=>by simp at hx⟩
 ·refine⟨some ⟨g,0,none⟩,cap,by rw[hl],by omega,fun j y hy=>?_⟩
  have hjl:j<l.length:=by have:=(List.getElem?_eq_some_iff.1 hy).1;omega
  obtain⟨x,hx⟩:∃x,l[j]?=some x:=⟨l[j],List.getElem?_eq_getElem _⟩
  obtain⟨a1,a2,a3⟩:=hval j x y hx hy
  obtain⟨g0,g1,g2,g3,g4,g5⟩:=chP_get l j x hx
  have hc:∀k u,(chP l)[k]?=some u→w.cell? ⟨g,0+k,none⟩=some u:=fun k u hk=>by
   rw[←h5,List.getElem?_take]at hk
   split at hk
   ·have hcu:cur[k]?=some u:=by rw[←Array.getElem?_toList];exact hk
    unfold World.cell?
    simp[hg,hcu]
   ·cases hk
  rw[a1]at g0
  exact⟨g,0,_,_,_,_,_,rfl,(Array.getElem?_eq_some_iff.1 hg).1,a2,hc _ _ g0,hc _ _ g1,hc _ _ g2,hc _ _ g3,hc _ _ g4,hc _ _ g5,a3.holds⟩
theorem OwnPr.below{w w':World}{B T:Nat}{v:Value}{D:List Pr}(h:OwnPr w B T v D)(hT:T≤B)(hBw:B≤w.heap.size)(hB:Below w.heap.size w w'):OwnPr w' B T v D:=by
 obtain⟨l,hl,⟨h1,h2⟩,hval⟩:=h
 refine⟨l,hl,⟨h1,?_⟩,fun j x y hx hy=>?_⟩
 ·rcases h2 with h2 | ⟨g,cap,cur,e,hb,hg,h3⟩
  ·exact Or.inl h2
  ·exact Or.inr ⟨g,cap,cur,e,hb,keep_at hB hg,h3⟩
 ·obtain⟨a1,a2,a3⟩:=hval j x y hx hy
  exact⟨a1,a2,VAt.under a3 hT (hB.mono hBw)⟩
end Go.Proofs.YtlogjpmdfimgdaaGreatDoor
namespace Go.Proofs.YtlogjpmdfimgdaaGreatDoor
open Go Go.RowKit Go.Own Go.Own.Fr Go.Maps Go.WideMaps
theorem VAt.lower{w:World}{v:Value}{a:V}(h:Holds w v a):VAt w (fun b=>b<w.heap.size) v a:=VAt.keep h (fun _ _ h=>h) (Nat.le_refl _) (fun _ _ _=>rfl)
theorem run_none(W:World)(a:Option Addr)(cap:Nat)(p:Addr):(Builtin.append_ #[32,32] 32 #[.slice (some p) 0 0,.slice a 0 cap]).run Tryz.prog W=.ok (.slice (some p) 0 0) W:=by
 cases a <;> simp[Builtin.append_,Builtin.lenOf,Builtin.firstCells,storeCells,loadCells,loadCellsFrom]
end Go.Proofs.YtlogjpmdfimgdaaGreatDoor
namespace Go.Proofs.YtlogjpmdfimgdaaGreatDoor
open Go Go.RowKit Go.Own Go.Own.Fr Go.Maps Go.WideMaps
def Sl6(k:ByteArray)(c:Cz)(v:Value)(W:World):Prop:=∃b,v=.slice (some ⟨b,0,none⟩) 1 1∧W.heap[b]?=some (.cells #[.string k,c.1,c.2.1,c.2.2.1,c.2.2.2.1,c.2.2.2.2] 82 (0,0))
theorem Sl6_last(k:ByteArray)(c:Cz):Lasts (Sl6 k c):=by
 rintro v W W' ⟨b,h1,h2⟩ hB
 exact⟨b,h1,(hB.block b (Array.getElem?_eq_some_iff.1 h2).1).trans h2⟩
section
variable{ρ:Operand→Value}{W:World}{dst:Option Tmp}{ty:TypeId}{pos:String}{after:Array Edge}{guard:Option (Nat×Bool)}{v r:Value}{x y z:Operand}
theorem exec_bd82{k:ByteArray}{c0 c1 c2 c3 c4:Value}(h1:ρ x=.string k)(h2:ρ y=.agg #[c0,c1,c2,c3,c4]) :
  (execOp ρ { dst,op:=.build 82 #[(0,x),(1,y)],type:=ty,pos,after,guard }).run Tryz.prog W=.ok (.value (.agg #[.string k,c0,c1,c2,c3,c4])) W:=by
 simp[execOp,h1,h2,go_sem]
theorem exec_bs32{k:ByteArray}{c0 c1 c2 c3 c4:Value}(h1:ρ x=.agg #[.string k,c0,c1,c2,c3,c4]) :
  (execOp ρ { dst,op:=.buildSlice 32 1 #[(0,x)],type:=ty,pos,after,guard }).run Tryz.prog W=.ok (.value (.slice (some ⟨W.heap.size,0,none⟩) 1 1)) (W.alloc (.cells #[.string k,c0,c1,c2,c3,c4] 82)):=by
 simp[execOp,h1,go_sem]
end
theorem wpList_pairAt{ops:Array Oper}{rest:List Oper}{o:Oper}{a:Act}{Q:Exit→Act→World→Prop}{w:World}(hgd:o.guard=none)(s x:Operand)
  (ho:o.op=.call { callee:=.builtin .append,args:=#[s,x],argTypes:=#[32,32] }) (B T:Nat) (hT:T≤B) (v:Value) (D:List Pr) (c:Cz) (y:Pr) (b9:Nat) (hb9:w.heap[b9]?=some (.cells #[.string y.1,c.1,c.2.1,c.2.2.1,c.2.2.2.1,c.2.2.2.2] 82 (0,0))) (hs:a.eval s=v) (hrow:OwnPr w B T v D)
  (hy:y.1.size≤9223372036854775807) (hv:VAt w (fun b=>b<T) c.agg y.2)
  (hx:a.eval x=.slice (some ⟨b9,0,none⟩) 1 1) (hlen:D.length+1≤1000000) (hB:B≤w.heap.size)
  (h:∀v' w',OwnPr w' B T v' (D++[y])→Below B w w'→wpList Tryz.prog ops Q rest (a.put o.dst v') w'):wpList Tryz.prog ops Q (o :: rest) a w:=by
 obtain⟨i0,hi,hz0,hz1,hz2⟩:=info_parts info82
 obtain⟨l,hl,hown,hval⟩:=hrow
 obtain⟨o1,o2,o3,o4,o5⟩:=cells_one hv
 refine wpList_append_own _ hgd s x 32 ho B 82 i0 _ 6 80 Tryz.underlying32 hi hz0 hz1 hz2 rfl (by decide) v l.length (chP l) hs hown ⟨b9,0,none⟩ 1 1 [.string y.1,c.1,c.2.1,c.2.2.1,c.2.2.2.1,c.2.2.2.2] hx rfl (fun j u hj=>by rw[hadd,Nat.zero_add,cell_at hb9];simpa using hj) (fun u hj=>by simp at hj;rcases hj with rfl | rfl | rfl | rfl | rfl | rfl;rfl;exact o1;exact o2;exact o3;exact o4;exact o5) (by unfold maxLen;omega) (by omega) (by omega) ?_
 intro v' w1 hown1 hgr _
 have hBw:Below B w w1:=(Below.refl B w).grown hgr hB (fun k hk=>(hown.lt k hk).1)
 refine h _ w1 ⟨l++[(y.1,c)],by rw[List.length_append,List.length_append,hl];rfl,?_,fun j x z hx hz=>?_⟩ hBw
 ·unfold chP
  rw[List.flatMap_append,List.length_append]
  exact hown1
 ·by_cases hj:j<l.length
  ·rw[List.getElem?_append_left hj]at hx
   rw[List.getElem?_append_left (by omega)]at hz
   obtain⟨a1,a2,a3⟩:=hval j x z hx hz
   exact⟨a1,a2,VAt.under a3 hT hBw⟩
  ·rw[List.getElem?_append_right (by omega)]at hx
   rw[List.getElem?_append_right (by omega)]at hz
   have hj0:j-l.length=0:=by
    rcases Nat.eq_zero_or_pos (j-l.length)with h0 | h0
    ·exact h0
    ·rw[List.getElem?_eq_none (by simp;omega)]at hx;cases hx
   rw[hj0]at hx
   rw[show j-D.length=0 by omega]at hz
   simp only[List.getElem?_cons_zero,Option.some.injEq]at hx hz
   subst hx hz
   exact⟨rfl,hy,VAt.under hv hT hBw⟩
end Go.Proofs.YtlogjpmdfimgdaaGreatDoor
namespace Go.Proofs.YtlogjpmdfimgdaaGreatDoor
open Go Go.RowKit Go.Own Go.Own.Fr Go.Maps Go.WideMaps
theorem foldl_length(l:List (ByteArray×V×Bool)):∀D:List Pr,(l.foldl layC D).length≤D.length+l.length:=by
 induction l with
 |nil=>intro D;simp
 |cons c r ih =>
  intro D
  have h1:=ih (layC D c)
  have h2:=layC_length D c
  simp only[List.foldl_cons,List.length_cons]
  omega
theorem OwnPr.rowT{w:World}{B T:Nat}{v:Value}{D:List Pr}(h:OwnPr w B T v D):∃p cap,v=.slice p D.length cap∧D.length≤cap∧∀(j:Nat) (x:Pr),D[j]?=some x→∃b o c0 c1 c2 c3 c4,p=some ⟨b,o,none⟩∧b<w.heap.size∧x.1.size≤9223372036854775807 ∧
  w.cell? ⟨b,o+j*6,none⟩=some (.string x.1)∧w.cell? ⟨b,o+j*6+1,none⟩=some c0∧w.cell? ⟨b,o+j*6+2,none⟩=some c1∧w.cell? ⟨b,o+j*6+3,none⟩=some c2∧w.cell? ⟨b,o+j*6+4,none⟩=some c3∧w.cell? ⟨b,o+j*6+5,none⟩=some c4∧VAt w (fun b=>b<T) (.agg #[c0,c1,c2,c3,c4]) x.2:=by
 obtain⟨l,hl,⟨_,h2⟩,hval⟩:=h
 rcases h2 with⟨rfl,h0⟩ | ⟨g,cap,cur,rfl,hb,hg,h1,h3,h4,h5⟩
 ·have hD:D=[]:=List.eq_nil_of_length_eq_zero (by omega)
  subst hD
  exact⟨none,0,rfl,Nat.le_refl _,fun j x hx=>by simp at hx⟩
 ·refine⟨some ⟨g,0,none⟩,cap,by rw[hl],by omega,fun j y hy=>?_⟩
  have hjl:j<l.length:=by have:=(List.getElem?_eq_some_iff.1 hy).1;omega
  obtain⟨x,hx⟩:∃x,l[j]?=some x:=⟨l[j],List.getElem?_eq_getElem _⟩
  obtain⟨a1,a2,a3⟩:=hval j x y hx hy
  obtain⟨g0,g1,g2,g3,g4,g5⟩:=chP_get l j x hx
  have hc:∀k u,(chP l)[k]?=some u→w.cell? ⟨g,0+k,none⟩=some u:=fun k u hk=>by
   rw[←h5,List.getElem?_take]at hk
   split at hk
   ·have hcu:cur[k]?=some u:=by rw[←Array.getElem?_toList];exact hk
    unfold World.cell?
    simp[hg,hcu]
   ·cases hk
  rw[a1]at g0
  exact⟨g,0,_,_,_,_,_,rfl,(Array.getElem?_eq_some_iff.1 hg).1,a2,hc _ _ g0,hc _ _ g1,hc _ _ g2,hc _ _ g3,hc _ _ g4,hc _ _ g5,a3⟩
theorem OwnPr.drew{w:World}{B T:Nat}{v:Value}{D:List Pr}(h:OwnPr w B T v D)(hT:T≤B)(hB:B≤w.heap.size)(k:Nat):OwnPr (w.drewN k) B T v D:=h.below hT hB (below_dr (Below.refl _ _) k)
theorem OwnPr.base{w:World}{B B' T:Nat}{v:Value}{D:List Pr}(h:OwnPr w B T v D)(hB:B'≤B):OwnPr w B' T v D:=by
 obtain⟨l,h1,⟨h2,h3⟩,h4⟩:=h
 refine⟨l,h1,⟨h2,?_⟩,h4⟩
 rcases h3 with h3 | ⟨g,cap,cur,e,hb,hr⟩
 ·exact .inl h3
 ·exact .inr ⟨g,cap,cur,e,Nat.le_trans hB hb,hr⟩
theorem len_of{X R L:List Pr}{n:Nat}(h:X++R=L)(hL:L.length≤n):X.length≤n:=by
 rw[←h,List.length_append]at hL
 omega
theorem drop_at{α:Type}{l:List α}{k:Nat}{x:α}(h:l[k]?=some x):l.drop k=x :: l.drop (k+1):=by
 obtain⟨h1,h2⟩:=List.getElem?_eq_some_iff.1 h
 rw[List.drop_eq_getElem_cons h1,h2]
end Go.Proofs.YtlogjpmdfimgdaaGreatDoor
namespace Go.Own
inductive fewT:V→Prop
 |mk (k n:Int) (s:ByteArray) (b:Bool) (l:List V) (hs:s.size≤70000) (hl:l.length≤300) (h:∀x∈l,fewT x):fewT (.mk k n s b l)
theorem fewT_parts{k n:Int}{s:ByteArray}{b:Bool}{l:List V}(h:fewT (.mk k n s b l)):s.size≤70000∧l.length≤300∧∀x∈l,fewT x:=by
 cases h with
 |mk _ _ _ _ _ hs hl h=>exact⟨hs,hl,h⟩
end Go.Own
namespace Go.Proofs.YtlogjpmdfimgdaaGreatDoor
open Go Go.RowKit Go.Own Go.Own.Fr Go.Maps Go.WideMaps
attribute [-go_sem] run_string_add_if
theorem fewT_of(x:V):∀d,fewV x d=true→fewT x:=by
 induction x using V.ind with
 |h k n s b l ih =>
  intro d h
  obtain⟨h1,h2,h3⟩:=fewV_parts h
  exact .mk k n s b l h1 h2 fun x hx=>ih x hx (d+1) (h3 x hx)
def ToldT(x:V):Prop:=∀(d:Nat) (v:Value) (w:World),d≤8→fewT x→sz (ofV x) d≤140737488355328→Holds w v x→Calls Tryz.prog 102 #[v,.int .i64 (d:Int)] w (ToldQ (ofV x) d w)
set_option maxRecDepth 100000 in
set_option maxHeartbeats 1000000 in
theorem toldT_list(n:Int)(s:ByteArray)(b:Bool)(l:List V)(ih:∀x∈l,ToldT x)(d:Nat)(v:Value)(w:World)(hd:d≤8)(hf:fewT (.mk 4 n s b l))(hv:Holds w v (.mk 4 n s b l))(hz:sz (.list (l.map ofV)) d≤140737488355328) :
  Calls Tryz.prog 102 #[v,.int .i64 (d:Int)] w (ToldQ (.list (l.map ofV)) d w):=by
 obtain⟨p,cap,hp⟩:=VAt.parts hv
 obtain⟨rfl,_,_,_,hle,hcap,hsub⟩:=hp
 obtain⟨_,hf2,hf3⟩:=fewT_parts hf
 obtain⟨m,hm⟩:∃m,l.length=m:=⟨_,rfl⟩
 rw[hm]at hle hf2 ⊢
 have hml:(l.map ofV).length=m:=by rw[List.length_map,hm]
 have hcs:(255<m)∨(m≤255∧8≤d)∨(m≤255∧d<8):=by omega
 rcases hcs with h | ⟨h,h2⟩ | ⟨h,h2⟩
 ·have HE:Hid (er (.list (l.map ofV)) d=3):=Lib.hid (by rw[er,if_pos (by omega)])
  have d1:decide ((255:Int)<(m:Int))=true:=by simp;omega
  clear hv hsub ih hm hf hf3 hml hz
  go_enter Tryz.func102,Tryz.ntmps102
  go_wp2
  go_ret2
  exact⟨by rw[HE.out];rfl,(Below.refl _ w).alloc (Nat.le_refl _) _⟩
 ·have HE:Hid (er (.list (l.map ofV)) d=3):=Lib.hid (by rw[er,if_pos (by omega)])
  have d1:decide ((255:Int)<(m:Int))=false:=by simp;omega
  have d2:decide ((8:Int)≤(d:Int))=true:=by simp;omega
  clear hv hsub ih hm hf hf3 hml hz
  go_enter Tryz.func102,Tryz.ntmps102
  go_wp2
  go_ret2
  exact⟨by rw[HE.out];rfl,(Below.refl _ w).alloc (Nat.le_refl _) _⟩
 ·have hc:¬(255<(l.map ofV).length∨8≤d):=by omega
  have HE:Hid (er (.list (l.map ofV)) d=ers (l.map ofV) (d+1)):=Lib.hid (by rw[er,if_neg hc])
  rw[sz,if_neg hc]at hz
  have d1:decide ((255:Int)<(m:Int))=false:=by simp;omega
  have d2:decide ((8:Int)≤(d:Int))=false:=by simp;omega
  have HM:=Lib.hid hm
  have HML:=Lib.hid hml
  have HSUB:=Lib.hid hsub
  have HI:=Lib.hid ih
  have HF3:=Lib.hid hf3
  have hcv:=conv_one (w.alloc (.cells #[.int .i64 4,.int .i64 n,.string s,.bool b,.slice p m cap] 59)) (w.heap.size+1) (m:Int) m rfl (by simp)
  have ha:=add_run { data:=#[108] } (mkS [m]) [108,m] (cat_l _ _) (by rw[mkS_size];simp[ByteArray.size])
  have HW0:Hid (Below w.heap.size w ((w.alloc (.cells #[.int .i64 4,.int .i64 n,.string s,.bool b,.slice p m cap] 59)).alloc (.cells #[.int .u8 (m:Int)] 5))):=Lib.hid (((Below.refl _ w).alloc (Nat.le_refl _) _).alloc (by simp) _)
  have HC4:Hid (((w.alloc (.cells #[.int .i64 4,.int .i64 n,.string s,.bool b,.slice p m cap] 59)).alloc (.cells #[.int .u8 (m:Int)] 5)).cell? ⟨w.heap.size,4,none⟩=some (.slice p m cap)):=Lib.hid (by
   rw[Below.cell (B:=w.heap.size+1) ((Below.refl _ _).alloc (by simp) _) (p:=⟨w.heap.size,4,none⟩) (by simp)]
   exact cell_new _ _ _ _)
  have HZ0:Hid (((w.alloc (.cells #[.int .i64 4,.int .i64 n,.string s,.bool b,.slice p m cap] 59)).alloc (.cells #[.int .u8 (m:Int)] 5)).heap.size=w.heap.size+2):=Lib.hid (by simp)
  have HSM:Hid (mkS [108,m]=mkS (108 :: (be 1 m++prs ((l.map ofV).take 0)))):=Lib.hid (by simp[be,prs];rw[Nat.mod_eq_of_lt (by omega)])
  clear hv hsub ih hm hf hf3 hml hc
  go_enter Tryz.func102,Tryz.ntmps102
  go_wp2
  generalize (w.alloc (.cells #[.int .i64 4,.int .i64 n,.string s,.bool b,.slice p m cap] 59)).alloc (.cells #[.int .u8 (m:Int)] 5)=W0 at *
  clear hcv ha
  go_loopw [9,10] (fun t i wr=>∃(j:Nat) (q:ByteArray),j≤m∧i=.int .i64 (j:Int)∧t=.string q∧Hid (q=mkS (108 :: (be 1 m++prs ((l.map ofV).take j))))∧Hid (ers ((l.map ofV).take j) (d+1)=0)∧Hid (Below (w.heap.size+1) W0 wr)) (fun _ i _=>m-(intOf i).toNat)
  case atStart=>exact⟨0,_,Nat.zero_le _,rfl,rfl,HSM,Lib.hid (by simp[ers]),Lib.hid (Below.refl _ _)⟩
  case round =>
   obtain⟨j,q,hj,rfl,rfl,HQ,HEJ,HB⟩:=hrel
   have c4:wr.cell? ⟨w.heap.size,4,none⟩=some (.slice p m cap):=by rw[HB.out.cell (p:=⟨w.heap.size,4,none⟩) (by simp)];exact HC4.out
   have HBW:Hid (Below w.heap.size w wr):=Lib.hid (HW0.out.trans (HB.out.mono (by omega)))
   have hzr:w.heap.size+1≤wr.heap.size:=by have:=HB.out.size;rw[HZ0.out]at this;omega
   by_cases hlt:j<m
   ·obtain⟨x,hx⟩:∃x,l[j]?=some x:=⟨_,List.getElem?_eq_getElem (by rw[HM.out];exact hlt)⟩
    obtain⟨g,o,t0,t1,t2,t3,t4,rfl,_,hg,hvx,e0,e1,e2,e3,e4⟩:=HSUB.out j x hx
    have hk:∀i,wr.cell? ⟨g,i,none⟩=w.cell? ⟨g,i,none⟩:=fun i=>HBW.out.cell (p:=⟨g,i,none⟩) hg
    rw[←hk]at e0 e1 e2 e3 e4
    have hmx:(l.map ofV)[j]?=some (ofV x):=by simp[hx]
    have HC:=Lib.hid (HI.out x (List.mem_of_getElem? hx) (d+1) _ wr (by omega) (HF3.out x (List.mem_of_getElem? hx)) (by have:=szs_le hmx (d+1);omega) (Holds.below hvx.holds HBW.out))
    have e1':(((d+1:Nat)):Int)=(d:Int)+1:=by omega
    rw[e1']at HC
    have HPS:=Lib.hid (prs_snoc hmx)
    have hle2:=szs_le hmx (d+1)
    have hlen:=prs_len HEJ.out
    by_cases hex:er (ofV x) (d+1)=0
    ·have HES:=Lib.hid (ers_snoc hmx HEJ.out hex)
     have hpl:=pr_sz _ _ hex
     have ha:=add_run q (mkS (pr (ofV x))) (108 :: (be 1 m++prs ((l.map ofV).take j))++pr (ofV x)) (by rw[HQ.out,mkS_append]) (by
      rw[HQ.out,mkS_size,mkS_size,List.length_cons,List.length_append,be_length];omega)
     have HQ2:Hid (mkS (108 :: (be 1 m++prs ((l.map ofV).take j))++pr (ofV x))=mkS (108 :: (be 1 m++prs ((l.map ofV).take (j+1))))):=Lib.hid (by rw[HPS.out];simp)
     unfold ToldQ at HC
     rw[hex,if_pos rfl]at HC
     obtain⟨q2,hq2⟩:∃q2,mkS (108 :: (be 1 m++prs ((l.map ofV).take j))++pr (ofV x))=q2:=⟨_,rfl⟩
     obtain⟨q1,hq1⟩:∃q1,mkS (pr (ofV x))=q1:=⟨_,rfl⟩
     rw[hq2]at ha HQ2
     rw[hq1]at ha HC
     clear hx hmx hk hvx hle2 hlen e1' hex hpl hq1 hq2
     go_wp2_with (go_at_call 102;fail)
     refine HC.out.mono ?_
     rintro e w3 ⟨rfl,hb3⟩
     have HB3:Hid (Below (w.heap.size+1) W0 w3):=Lib.hid (HB.out.trans (hb3.mono hzr))
     clear hb3
     go_wp2
     go_roundw
     case rel=>exact⟨j+1,q2,by omega,by go_num,rfl,HQ2,HES,HB3⟩
     case measure=>simp[intOf];omega
    ·have HST:=Lib.hid (ers_stop hmx HEJ.out hex)
     unfold ToldQ at HC
     rw[if_neg hex]at HC
     obtain⟨z,hz'⟩:∃z,er (ofV x) (d+1)=z:=⟨_,rfl⟩
     rw[hz']at HC HST hex
     have hzb:(z == 0)=false:=by simpa using hex
     have hzb2:(z != 0)=true:=by simpa using hex
     have HZ:=Lib.hid hex
     clear hx hmx hk hvx hle2 hlen e1' hex hz'
     go_wp2_with (go_at_call 102;fail)
     refine HC.out.mono ?_
     rintro e w3 ⟨rfl,hb3⟩
     have HB3:Hid (Below w.heap.size w w3):=Lib.hid (HBW.out.trans (hb3.mono (by omega)))
     clear hb3
     go_wp2
     go_ret2
     exact⟨by rw[HE.out,HST.out,if_neg HZ.out];rfl,HB3.out⟩
   ·obtain rfl:j=m:=by omega
    have hfull:(l.map ofV).take j=l.map ofV:=List.take_of_length_le (by rw[HML.out];exact Nat.le_refl _)
    have HE0:Hid (er (.list (l.map ofV)) d=0):=Lib.hid (by have h:=HEJ.out;rw[hfull]at h;rw[HE.out,h])
    have HT:Hid (q=mkS (pr (.list (l.map ofV)))):=Lib.hid (by rw[HQ.out,hfull,pr,HML.out])
    clear hfull
    go_wp2
    go_ret2
    exact⟨by rw[HE0.out,if_pos rfl,←HT.out];rfl,HBW.out⟩
theorem toldT_any(x:V):ToldT x:=by
 induction x using V.ind with
 |h k n s b l ih =>
  intro d v w hd hf hz hv
  rcases kinds k with rfl | rfl | rfl | rfl | hk
  ·rw[show ofV (.mk 1 n s b l)=.num n by simp[ofV]]
   exact told_num n s b l d v w hv
  ·rw[show ofV (.mk 2 n s b l)=.str s by simp[ofV]]
   exact told_text n s b l d v w (fewT_parts hf).1 hv
  ·rw[show ofV (.mk 3 n s b l)=.bool b by simp[ofV]]
   exact told_bool n s b l d v w hv
  ·rw[show ofV (.mk 4 n s b l)=.list (l.map ofV) by simp[ofV,ofVs_map]]at hz ⊢
   exact toldT_list n s b l ih d v w hd hf hv hz
  ·rw[show ofV (.mk k n s b l)=.none by simp[ofV,hk]]
   exact told_none k n s b l d v w hk hv
set_option maxRecDepth 100000 in
set_option maxHeartbeats 1000000 in
theorem rprintT_any(x:V)(v:Value)(w:World)(hf:fewT x)(hz:sz (ofV x) 0≤140737488355328)(hv:Holds w v x):Calls Tryz.prog 72 #[v] w (PrintQ (ofV x) w):=by
 obtain⟨c0,c1,c2,c3,c4,rfl⟩:=VAt.five hv
 have HC:=Lib.hid (toldT_any x 0 (.agg #[c0,c1,c2,c3,c4]) (w.alloc (.cells #[c0,c1,c2,c3,c4] 59)) (by omega) hf hz (hv.below ((Below.refl _ w).alloc (Nat.le_refl _) _)))
 have HP:Hid ((if er (ofV x) 0=0 then mkS (pr (ofV x))else { data:=#[] })=prt (ofV x)):=Lib.hid rfl
 unfold ToldQ at HC
 rw[HP.out]at HC
 unfold PrintQ
 obtain⟨z,hz2⟩:∃z,er (ofV x) 0=z:=⟨_,rfl⟩
 obtain⟨t,ht⟩:∃t,prt (ofV x)=t:=⟨_,rfl⟩
 rw[hz2,ht]at HC ⊢
 clear hf hv hz hz2 ht HP
 go_enter Tryz.func72,Tryz.ntmps72
 go_wp2_with (go_at_call 102;fail)
 refine HC.out.mono ?_
 rintro e w3 ⟨rfl,hb3⟩
 have HB3:Hid (Below w.heap.size w w3):=Lib.hid (((Below.refl _ w).alloc (Nat.le_refl _) _).trans (hb3.mono (by simp)))
 clear hb3
 go_wp2
 go_ret2
 exact⟨rfl,HB3.out⟩
end Go.Proofs.YtlogjpmdfimgdaaGreatDoor
namespace Go.Own
theorem flat5{α:Type}:∀(us:List (List α)) (_:∀u∈us,u.length=5) (j i:Nat) (_:i<5) (u:List α),us[j]?=some u→us.flatten[j*5+i]?=u[i]?
 | [],_,j,i,_,u,h=>by simp at h
 |x :: us,hl,0,i,hi,u,h=>by
  simp only[List.getElem?_cons_zero,Option.some.injEq]at h
  subst h
  have hx:=hl x (by simp)
  rw[List.flatten_cons,Nat.zero_mul,Nat.zero_add,List.getElem?_append_left (by omega)]
 |x :: us,hl,j+1,i,hi,u,h=>by
  have hx:=hl x (by simp)
  rw[List.flatten_cons,List.getElem?_append_right (by omega)]
  rw[show (j+1)*5+i-x.length=j*5+i by omega]
  exact flat5 us (fun v hv=>hl v (by simp[hv])) j i hi u (by simpa using h)
end Go.Own
namespace Go.Proofs.YtlogjpmdfimgdaaGreatDoor
open Go Go.RowKit Go.Own Go.Own.Fr Go.Maps Go.WideMaps
def Blk(w:World)(B:Nat)(cs:Array Value):Prop:=w.heap[B]?=some (.cells cs 59 (0,0))
theorem Blk.lt{w:World}{B:Nat}{cs:Array Value}(h:Blk w B cs):B<w.heap.size:=(Array.getElem?_eq_some_iff.1 h).1
theorem Blk.cell{w:World}{B:Nat}{cs:Array Value}(h:Blk w B cs)(i:Nat):w.cell? ⟨B,i,none⟩=cs[i]?:=by
 simp only[World.cell?,show w.heap[B]?=_ from h,Option.isSome_none,Bool.false_eq_true,if_false]
theorem Blk.free{w:World}{B:Nat}{cs:Array Value}(h:Blk w B cs)(i:Nat):w.frozen? ⟨B,i,none⟩=false:=by simp[World.frozen?,show w.heap[B]?=_ from h]
theorem Blk.past{w w':World}{B:Nat}{cs:Array Value}(h:Blk w B cs)(hb:Below w.heap.size w w'):Blk w' B cs:=(hb.block B h.lt).trans h
theorem blk_new(w:World)(cs:Array Value):Blk (w.alloc (.cells cs 59)) w.heap.size cs:=heap_alloc_new w _
theorem Blk.grown{w w':World}{B g:Nat}{cs:Array Value}(h:Blk w B cs)(hg:w.grownBy w' (some g))(hne:B≠g):Blk w' B cs:=(hg.block B h.lt (by simpa using hne)).trans h
theorem below_blk{w w1 w2:World}{B g:Nat}(h:Below B w w1)(hg:w1.grownBy w2 (some g))(hB:B≤w1.heap.size)(hBg:B≤g):Below B w w2 :=
 h.grown hg hB (fun k hk=>by have:=Option.some.inj hk;omega)
theorem in_small(z:Int)(h1:0≤z)(h2:z≤1000000):In64 z:=by unfold In64 two63;omega
theorem VAt.ones{w:World}{S:Nat→Prop}{c0 c1 c2 c3 c4:Value}{x:V}(h:VAt w S (.agg #[c0,c1,c2,c3,c4]) x):#[c0,c1,c2,c3,c4].all (·.oneCell')=true:=by
 generalize hv:Value.agg #[c0,c1,c2,c3,c4]=v at h
 cases h <;> (simp only[Value.agg.injEq,Array.mk.injEq,List.cons.injEq,and_true]at hv;obtain⟨rfl,rfl,rfl,rfl,rfl⟩:=hv;simp[Value.oneCell'])
theorem info59:(Tryz.prog.info? 59).map (fun i=>(i.zero,i.size,i.bytes))=some (some (.agg #[.int .i64 0,.int .i64 0,.string { data:=#[] },.bool false,.slice none 0 0]),5,64):=by kernel_rfl
def RowV(w:World)(B:Nat)(N:Nat→Prop)(v:Value)(l:List V):Prop :=
 ∃us:List (List Value),us.length=l.length∧(∀u∈us,u.length=5)∧w.ownsRow B 59 5 v l.length us.flatten∧∀(i:Nat) (x:V),l[i]?=some x→∃u,us[i]?=some u∧VAt w (fun b=>N b∧v.ownBlock≠some b) (.agg u.toArray) x
theorem VAt.fresh{w w':World}{S:Nat→Prop}{v:Value}{a:V}(h:VAt w S v a)(hb:Below w.heap.size w w'):VAt w' S v a :=
 h.keep (fun _ h _=>h) hb.size (fun b _ hlt=>hb.block b hlt)
theorem RowV.nil(w:World)(B:Nat)(N:Nat→Prop):RowV w B N (.slice none 0 0) []:=⟨[],rfl,fun u hu=>by simp at hu,World.ownsRow_nil w B 59 5,fun i x hx=>by simp at hx⟩
theorem RowV.lt{w:World}{B:Nat}{N:Nat→Prop}{v:Value}{l:List V}(h:RowV w B N v l):∀g,v.ownBlock=some g→B≤g∧g<w.heap.size:=by
 obtain⟨us,_,_,h1,_⟩:=h
 exact h1.lt
theorem RowV.shape{w:World}{B:Nat}{N:Nat→Prop}{v:Value}{l:List V}(h:RowV w B N v l):∃p c,v=.slice p l.length c:=by
 obtain⟨us,_,_,h1,h2⟩:=h
 rcases h1.2 with⟨rfl,h0⟩ | ⟨g,cap,cur,rfl,_⟩
 ·rw[h0];exact⟨_,_,rfl⟩
 ·exact⟨_,_,rfl⟩
theorem RowV.below{w w':World}{B:Nat}{N:Nat→Prop}{v:Value}{l:List V}(h:RowV w B N v l)(hb:Below w.heap.size w w'):RowV w' B N v l:=by
 obtain⟨us,h0,h5,h1,h2⟩:=h
 refine⟨us,h0,h5,own_kept h1 hb,fun i x hx=>?_⟩
 obtain⟨u,hu,ha⟩:=h2 i x hx
 exact⟨u,hu,ha.fresh hb⟩
theorem RowV.past{w w':World}{B g:Nat}{N:Nat→Prop}{v:Value}{l:List V}(h:RowV w B N v l)(hg:w.grownBy w' (some g))(hne:v.ownBlock≠some g)(hN:¬N g):RowV w' B N v l:=by
 obtain⟨us,h0,h5,h1,h2⟩:=h
 refine⟨us,h0,h5,h1.kept hg (by
  cases hv:v.ownBlock with
  |none=>exact Or.inl rfl
  |some k=>exact Or.inr (by simp;intro e;exact hne (by rw[hv,e]))),fun i x hx=>?_⟩
 obtain⟨u,hu,ha⟩:=h2 i x hx
 exact⟨u,hu,ha.keep (fun _ h _=>h) hg.size (fun b hb hlt=>hg.block b (by assumption) (fun e=>hN (by have:=Option.some.inj e;subst this;exact hb.1)))⟩
theorem RowV.not_box{w:World}{B g:Nat}{N:Nat→Prop}{v:Value}{l:List V}{a b c d e:Value}(h:RowV w B N v l)(hl:2≤l.length)(hk:Blk w g #[a,b,c,d,e]):v.ownBlock≠some g:=by
 obtain⟨us,h0,h5,h1,h2⟩:=h
 rcases h1.2 with⟨rfl,hz⟩ | ⟨k,cap,cur,rfl,hb,hg,hle,hm,hs,ht⟩
 ·omega
 ·intro e
  simp only[Value.ownBlock,Option.some.injEq]at e
  subst e
  unfold Blk at hk
  rw[hg]at hk
  simp only[Option.some.injEq,Obj.cells.injEq]at hk
  have:=congrArg Array.size hk.1
  rw[hs]at this
  simp at this
  omega
theorem RowV.val{w:World}{B:Nat}{N:Nat→Prop}{v:Value}{l:List V}(h:RowV w B N v l){M:Nat→Prop}(hM:∀b,N b→M b)(hv:∀b,v.ownBlock=some b→M b):VAt w M (.agg #[.int .i64 4,.int .i64 0,.string { data:=#[] },.bool false,v]) (.mk 4 0 { data:=#[] } false l):=by
 obtain⟨us,h0,h5,h1,h2⟩:=h
 have i4:=in_small 4 (by omega) (by omega)
 have i0:=in_small 0 (by omega) (by omega)
 rcases h1.2 with⟨rfl,hz⟩ | ⟨g,cap,cur,rfl,hb,hg,hle,hm,hs,ht⟩
 ·have:l=[]:=List.eq_nil_of_length_eq_zero hz
  subst this
  exact .nil 4 0 _ false i4 i0 (by decide)
 ·refine .list 4 0 _ false i4 i0 (by decide) g 0 l.length cap l (fun j=>(us.getD j []).toArray) rfl (hv g rfl) (Array.getElem?_eq_some_iff.1 hg).1 hle (by unfold maxLen at hm;exact hm) (fun j x hx i u hu=>?_) (fun j x hx=>?_)
  ·obtain⟨t,ht2,_⟩:=h2 j x hx
   have e:us.getD j []=t:=by simp[List.getD,ht2]
   rw[e]at hu
   have h5t:=h5 t (List.mem_of_getElem? ht2)
   have hi:i<5:=by
    have:=(Array.getElem?_eq_some_iff.1 hu).1
    simp at this;omega
   have hf:=flat5 us h5 j i hi t ht2
   have hc:=h1.cells (g:=g) rfl (j*5+i) u (by rw[hf];simpa using hu)
   rw[hadd]at hc
   simpa using hc
  ·obtain⟨t,ht2,ha⟩:=h2 j x hx
   have e:us.getD j []=t:=by simp[List.getD,ht2]
   simp only[e]
   exact ha.keep (fun b hb _=>hM b hb.1) (Nat.le_refl _) (fun _ _ _=>rfl)
theorem five_new(w:World)(c0 c1 c2 c3 c4:Value)(t:TypeId):∀(j:Nat) u,[c0,c1,c2,c3,c4][j]?=some u→(w.alloc (.cells #[c0,c1,c2,c3,c4] t)).cell? ((⟨w.heap.size,0,none⟩:Addr).add j)=some u:=fun j u h=>by
 rw[hadd,cell_new]
 simpa using h
theorem wpList_pushV{ops:Array Oper}{rest:List Oper}{o:Oper}{a:Act}{Q:Exit→Act→World→Prop}{W:World}(hgd:o.guard=none)(s x:Operand)
  (ho:o.op=.call { callee:=.builtin .append,args:=#[s,x],argTypes:=#[57,57] }) (w:World) (B:Nat) (N:Nat→Prop) (v:Value) (l:List V) (y:V) (c0 c1 c2 c3 c4:Value) (hW:W=w.alloc (.cells #[c0,c1,c2,c3,c4] 59)) (hs:a.eval s=v) (hrow:RowV w B N v l)
  (hr:VAt w (fun b=>N b∧v.ownBlock≠some b) (.agg #[c0,c1,c2,c3,c4]) y) (hx:a.eval x=.slice (some ⟨w.heap.size,0,none⟩) 1 1) (hlen:l.length≤1000000) (hB:B≤w.heap.size)
  (h:∀v' w',RowV w' B N v' (l++[y])→Below B w w'→wpList Tryz.prog ops Q rest (a.put o.dst v') w'):wpList Tryz.prog ops Q (o :: rest) a W:=by
 subst hW
 obtain⟨i0,hi,hz0,hz1,hz2⟩:=info_parts info59
 obtain⟨us,h0,h5,hown,hall⟩:=hrow
 have hone:=VAt.ones hr
 refine wpList_append_lies _ hgd s x 57 ho B 59 i0 _ 5 64 Tryz.underlying57 hi hz0 hz1 hz2 rfl (by decide) v l.length us.flatten hs (hown.alloc _) ⟨w.heap.size,0,none⟩ 1 1 [c0,c1,c2,c3,c4] hx rfl (five_new _ _ _ _ _ _ _)
  (fun u hu=>(Array.all_eq_true_iff_forall_mem.1 hone) u (by simpa using hu)) (by decide) (by unfold maxLen;omega) (by omega) (by simp;omega) (w.heap.size+1) (by simp) ?_
 intro g cap w1 hown1 hgr hat _
 have hsz:w.heap.size≤w1.heap.size:=by have:=hgr.size;simp at this;omega
 have keep:∀ {u x},VAt w (fun b=>N b∧v.ownBlock≠some b) u x→VAt w1 (fun b=>N b∧(Value.slice (some ⟨g,0,none⟩) (l.length+1) cap).ownBlock≠some b) u x:=fun {u x} h=>by
  refine h.keep (fun b hb hlt=>⟨hb.1,fun e=>?_⟩) hsz (fun b hb hlt=>?_)
  ·simp only[Value.ownBlock,Option.some.injEq]at e
   subst e
   rcases hat with h | h
   ·exact hb.2 h
   ·omega
  ·rw[hgr.block b (by simp;omega) (fun e=>hb.2 e.symm)]
   exact heap_alloc_old w _ hlt
 refine h _ w1 ⟨us++[[c0,c1,c2,c3,c4]],by simp[h0],fun u hu=>?_,by simpa using hown1,fun i z hz=>?_⟩ (((Below.refl B w).alloc hB _).grown hgr (by simp;omega) (fun k hk=>(hown.lt k hk).1))
 ·rcases List.mem_append.1 hu with hu | hu
  ·exact h5 u hu
  ·simp at hu;rw[hu];rfl
 ·rcases Nat.lt_or_ge i l.length with hil | hil
  ·rw[List.getElem?_append_left hil]at hz
   obtain⟨u',hu',ha⟩:=hall i z hz
   exact⟨u',by rw[List.getElem?_append_left (by omega)];exact hu',keep ha⟩
  ·rw[List.getElem?_append_right hil]at hz
   have hi0:i-l.length=0:=by
    have:=(List.getElem?_eq_some_iff.1 hz).1
    simp at this;omega
   rw[hi0]at hz
   simp at hz
   subst hz
   exact⟨[c0,c1,c2,c3,c4],by rw[List.getElem?_append_right (by omega),h0,hi0];rfl,keep hr⟩
theorem wpList_pushVAt{ops:Array Oper}{rest:List Oper}{o:Oper}{a:Act}{Q:Exit→Act→World→Prop}{w:World}(hgd:o.guard=none)(s x:Operand)
  (ho:o.op=.call { callee:=.builtin .append,args:=#[s,x],argTypes:=#[57,57] }) (B:Nat) (N:Nat→Prop) (v:Value) (l:List V) (y:V) (c0 c1 c2 c3 c4:Value) (b9:Nat) (hb9:w.heap[b9]?=some (.cells #[c0,c1,c2,c3,c4] 59 (0,0))) (hs:a.eval s=v) (hrow:RowV w B N v l)
  (hr:VAt w (fun b=>N b∧v.ownBlock≠some b) (.agg #[c0,c1,c2,c3,c4]) y) (hx:a.eval x=.slice (some ⟨b9,0,none⟩) 1 1) (hlen:l.length≤1000000) (hB:B≤w.heap.size)
  (h:∀v' w',RowV w' B N v' (l++[y])→Below B w w'→w.grownBy w' v.ownBlock→wpList Tryz.prog ops Q rest (a.put o.dst v') w'):wpList Tryz.prog ops Q (o :: rest) a w:=by
 obtain⟨i0,hi,hz0,hz1,hz2⟩:=info_parts info59
 obtain⟨us,h0,h5,hown,hall⟩:=hrow
 have hone:=VAt.ones hr
 refine wpList_append_lies _ hgd s x 57 ho B 59 i0 _ 5 64 Tryz.underlying57 hi hz0 hz1 hz2 rfl (by decide) v l.length us.flatten hs hown ⟨b9,0,none⟩ 1 1 [c0,c1,c2,c3,c4] hx rfl (fun j u hj=>by rw[hadd,Nat.zero_add,cell_at hb9];simpa using hj)
  (fun u hu=>(Array.all_eq_true_iff_forall_mem.1 hone) u (by simpa using hu)) (by decide) (by unfold maxLen;omega) (by omega) hB w.heap.size rfl ?_
 intro g cap w1 hown1 hgr hat _
 have hsz:w.heap.size≤w1.heap.size:=hgr.size
 have keep:∀ {u x},VAt w (fun b=>N b∧v.ownBlock≠some b) u x→VAt w1 (fun b=>N b∧(Value.slice (some ⟨g,0,none⟩) (l.length+1) cap).ownBlock≠some b) u x:=fun {u x} h=>by
  refine h.keep (fun b hb hlt=>⟨hb.1,fun e=>?_⟩) hsz (fun b hb hlt=>?_)
  ·simp only[Value.ownBlock,Option.some.injEq]at e
   subst e
   rcases hat with h | h
   ·exact hb.2 h
   ·omega
  ·exact hgr.block b hlt (fun e=>hb.2 e.symm)
 refine h _ w1 ⟨us++[[c0,c1,c2,c3,c4]],by simp[h0],fun u hu=>?_,by simpa using hown1,fun i z hz=>?_⟩ ((Below.refl B w).grown hgr hB (fun k hk=>(hown.lt k hk).1)) hgr
 ·rcases List.mem_append.1 hu with hu | hu
  ·exact h5 u hu
  ·simp at hu;rw[hu];rfl
 ·rcases Nat.lt_or_ge i l.length with hil | hil
  ·rw[List.getElem?_append_left hil]at hz
   obtain⟨u',hu',ha⟩:=hall i z hz
   exact⟨u',by rw[List.getElem?_append_left (by omega)];exact hu',keep ha⟩
  ·rw[List.getElem?_append_right hil]at hz
   have hi0:i-l.length=0:=by
    have:=(List.getElem?_eq_some_iff.1 hz).1
    simp at this;omega
   rw[hi0]at hz
   simp at hz
   subst hz
   exact⟨[c0,c1,c2,c3,c4],by rw[List.getElem?_append_right (by omega),h0,hi0];rfl,keep hr⟩
theorem Blk.set4{w:World}{B:Nat}{a b c d e:Value}(h:Blk w B #[a,b,c,d,e])(v:Value):Blk (w.setCell ⟨B,4,none⟩ v) B #[a,b,c,d,v]:=by
 unfold Blk at h ⊢
 simp[World.setCell,Array.getElem?_modify,h]
theorem grown_set(w:World)(g k:Nat)(v:Value):w.grownBy (w.setCell ⟨g,k,none⟩ v) (some g) :=
 ⟨rfl,rfl,rfl,by simp,fun j _ hne=>heap_setCell_other w ⟨g,k,none⟩ j _ (fun e=>hne (by rw[e]))⟩
theorem wpList_set4{ops:Array Oper}{rest:List Oper}{a:Act}{Q:Exit→Act→World→Prop}{w:World}{x y:Nat}{ty:TypeId}{pos:String}{after:Array Edge}(g:Nat)(c0 c1 c2 c3 c4:Value)(p:Option Addr)(n c:Nat)
  (hx:a.eval (.tmp x)=.pointer (some ⟨g,4,none⟩)) (hy:a.eval (.tmp y)=.slice p n c) (hg:Blk w g #[c0,c1,c2,c3,c4])
  (h:∀w',Blk w' g #[c0,c1,c2,c3,.slice p n c]→w.grownBy w' (some g)→wpList Tryz.prog ops Q rest a w') :
  wpList Tryz.prog ops Q ({ dst:=none,op:=.store 57 (.tmp x) (.tmp y),type:=ty,pos:=pos,after:=after,guard:=none } :: rest) a w:=by
 have k4:=hg.cell 4
 have kf:=hg.free 4
 simp only[List.getElem?_toArray,List.getElem?_cons_zero,List.getElem?_cons_succ]at k4
 have hs:(storeVar 57 ⟨g,4,none⟩ (.slice p n c)).run Tryz.prog w=.ok () (w.setCell ⟨g,4,none⟩ (.slice p n c)):=by simp[go_sem,k4,kf]
 exact wpList_plain rfl fun K hK=>by
  unfold Oper.wp execOp
  simp only[hx,hy,Instr.storeAt,Instr.sureAddr,Sem.run_bind,Sem.run_pure,Result.andThen_ok,hs]
  exact hK _ _ (h _ (hg.set4 (.slice p n c)) (grown_set w g 4 _))
end Go.Proofs.YtlogjpmdfimgdaaGreatDoor

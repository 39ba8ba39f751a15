/- strings.Clone, a half's room, its other half, its text more: by contract. No condition but the sizes. | Steps in memory: a write's closure, a flush's method value; what empties the sector behind all records: by contract. No condition. | What a range over the sectors keeps; the steps that it makes. No condition. | A range over the sectors of a text; a write's step as a value that lasts. No condition but the size. -/
import Derived.Test.YtlogjpmdfimgdaaGreatDoorZ20
namespace Go.Proofs.YtlogjpmdfimgdaaGreatDoor.Jf
open Go Go.RowKit Go.Own.Jf Go.Own.Fr
attribute [-go_sem] Sm.execOp_bs run_string_add_if
theorem stHAp{P:Program}{T:TypeId}{w:World}{l:List Obj}{d i:Nat}{dv vt:Value}{a n g u:Nat}{ty:TypeId}{p q:Option Addr}{a' n' g' u' x c:Nat}(h1:(sizeOf T).run P (Wd w l d)=.ok 6 (Wd w l d))(h2:l[i]?=some (.cells (hcl dv a n g vt u) ty (0,0))) :
  stX P T 6 (some (.cells (hcl dv a n g vt u) ty (0,0))) w l d i 0 (.agg (hcl (.pointer p) a' n' g' (.slice q x c) u'))=.ok () (Wd w (l.set i (.cells (hcl (.pointer p) a' n' g' (.slice q x c) u') ty (0,0))) d):=stHA rfl rfl h1 h2
theorem stHAv{P:Program}{T:TypeId}{w:World}{l:List Obj}{d i:Nat}{dv vt vt':Value}{a n g u:Nat}{ty:TypeId}{p:Option Addr}{a' n' g' u':Nat}(hv:vt'.oneCell'=true)(h1:(sizeOf T).run P (Wd w l d)=.ok 6 (Wd w l d))(h2:l[i]?=some (.cells (hcl dv a n g vt u) ty (0,0))) :
  stX P T 6 (some (.cells (hcl dv a n g vt u) ty (0,0))) w l d i 0 (.agg (hcl (.pointer p) a' n' g' vt' u'))=.ok () (Wd w (l.set i (.cells (hcl (.pointer p) a' n' g' vt' u') ty (0,0))) d):=stHA rfl hv h1 h2
attribute [local go_sem] agj61 csj61 szj61 agj25 isaj25 csj25 szj25 agj32 isaj32 csj32 szj32 agj38 isaj38 csj38 szj38 agj54 isaj54 csj54 szj54 agj9 isaj9 csj9 szj9 zj61 alXA buj61 ldH0 ldH1 ldH2 ldH3 ldH4 ldH5 ldHA stH3 stH4 stH5 stHAp stHAv
set_option maxRecDepth 100000 in
theorem room_any(dv vt:Value)(a n g u:Nat)(hn:n≤1000000)(hu:u≤1000000)(w:World) :
  Calls Tryz.prog 80 #[.agg (hcl dv a n g vt u)] w fun e w'=>e=.returned (.int .i64 (min 65535 (((n:Int)-u)*64-50)))∧Grows w w':=by
 refine calls_wd ?_
 go_enter Tryz.func80,Tryz.ntmps80
 go_wp2
 go_ret
 exact⟨rfl,Grows.of _ _ _⟩
set_option maxRecDepth 100000 in
theorem other_any(p:Option Addr)(vt:Value)(a n g u:Nat)(hn:n≤1000000)(ha:a≤n)(w:World) :
  Calls Tryz.prog 43 #[.agg (hcl (.pointer p) a n g vt u)] w fun e w'=>e=.returned (.agg (hcl (.pointer p) (n-a) n 0 (.slice none 0 0) 0))∧Grows w w':=by
 obtain⟨b,hb⟩:∃b,n-a=b:=⟨_,rfl⟩
 have hbi:(n:Int)-(a:Int)=(b:Int):=by omega
 rw[hb]
 clear hb ha
 refine calls_wd ?_
 go_enter Tryz.func43,Tryz.ntmps43
 go_wp2
 exact ret_mix (i:=1) (c:=hcl (.pointer p) b n 0 (.slice none 0 0) 0) (t:=107) (f:=(0,0)) rfl rfl agj61 rfl rfl rfl ⟨rfl,Grows.of _ _ _⟩
theorem unsafe_row(w:World)(s:ByteArray)(h0:s.size≠0)(hs:s.size≤1000000)(d:Nat) :
  (Builtin.unsafeString_ #[209,3] 9 #[.pointer (some ⟨w.heap.size,0,none⟩),.int .i64 (s.size:Int)]).run Tryz.prog (Wd w [.cells (cv .u8 (bys s)) 5 (0,0)] d)=.ok (.string s) ((Wd w [.cells (cv .u8 (bys s)) 5 (0,0)] d).freeze ⟨w.heap.size,0,none⟩ s.size):=by
 have hl:s.data.toList.length=s.size:=by rw[Array.length_toList];rfl
 have hb:(Wd w [.cells (cv .u8 (bys s)) 5 (0,0)] d).heap[w.heap.size]?=some (.cells (cv .u8 (bys s)) 5 (0,0)):=Wd_at w _ d 0
 have h:=Lib.run_unsafeString_row (P:=Tryz.prog) (Wd w [.cells (cv .u8 (bys s)) 5 (0,0)] d) 209 3 9 5 Tryz.underlying209 (by kernel_rfl) w.heap.size s.size (by simp[World.shape?,hb,bys_length]) s.data.toList (fun e=>h0 (by rw[←hl,e];rfl)) (by rw[hl];omega) (by omega) (fun j x hx=>by
  have hj:j<s.size:=by rw[←hl];exact(List.getElem?_eq_some_iff.1 hx).1
  have hadd:(⟨w.heap.size,0,none⟩:Addr).add j=⟨w.heap.size,j,none⟩:=by unfold Addr.add;split <;> simp_all
  rw[hadd]
  simp only[World.cell?,hb,Option.isSome_none,Bool.false_eq_true,if_false]
  rw[cv_get _ _ _ (by rw[bys_length];exact hj)]
  congr 2
  unfold gi bys
  rw[List.getD_eq_getElem?_getD,List.getElem?_map,hx]
  rfl)
 rw[hl]at h
 exact h
theorem below_grows'{w W:World}(h:Below w.heap.size w W):Grows w W:=by
 rw[←Wd_nil w]at h
 obtain⟨g,d,e⟩:=below_grows h
 exact⟨g,d,by rw[e];rfl⟩
attribute [local go_sem] cpX_le
set_option maxRecDepth 100000 in
set_option maxHeartbeats 1000000 in
theorem clone0_any(s:ByteArray)(hs:s.size≤1000000)(w:World):Calls Tryz.prog 101 #[.string s] w fun e w'=>e=.returned (.string s)∧Grows w w':=by
 by_cases h0:s.size=0
 ·have he:s=.empty:=by
   apply bys_inj
   rw[List.length_eq_zero_iff.1 ((bys_length s).trans h0)];rfl
  subst he
  refine calls_wd ?_
  go_enter Tryz.func101,Tryz.ntmps101
  go_wp2
  go_ret
  exact⟨rfl,Grows.of _ _ _⟩
 ·have hmk:(Tryz.prog.info? 5).map (fun i=>(i.zero,i.size,i.bytes))=some (some (.int .u8 0),1,1):=by kernel_rfl
  have hz5:zeroOf Tryz.prog 5=.int .u8 0:=by kernel_rfl
  have hi:¬(s.size:Int)=0:=by omega
  have hp:0<s.size:=by omega
  have hpi:(0:Int)<(s.size:Int):=by omega
  have hcb:s.size≤140737488355328:=by omega
  have hbl:=bys_length s
  have hfull:spl (rep s.size) 0 (bys s)=bys s:=spl_full (by rw[rep_length,hbl])
  have hUS:=unsafe_row w s h0 hs
  clear h0
  refine calls_wd ?_
  go_enter Tryz.func101,Tryz.ntmps101
  go_wp2
  go_ret
  exact⟨rfl,below_grows' (Lib.below_freeze (below_alloc w _ _) (Nat.le_refl _) _)⟩
set_option maxRecDepth 100000 in
theorem clone_any(s:ByteArray)(hs:s.size≤1000000)(w:World):Calls Tryz.prog 70 #[.string s] w fun e w'=>e=.returned (.string s)∧Grows w w':=by
 refine calls_wd ?_
 go_enter Tryz.func70,Tryz.ntmps70
 go_wp2_with fail
 refine(clone0_any s hs _).mono ?_
 rintro e w' ⟨rfl,g,d,rfl⟩
 rw[Wd_wd]
 go_wp2
 go_ret
 exact⟨rfl,Grows.of _ _ _⟩
def strs(ts:List (List Nat)):List Value:=ts.map fun t=>.string (mkS t)
theorem strs_length(ts:List (List Nat)):(strs ts).length=ts.length:=by simp[strs]
theorem strs_snoc(ts:List (List Nat))(s:ByteArray):strs (ts++[bys s])=strs ts++[.string s]:=by simp[strs,mkS_bys]
set_option maxRecDepth 100000 in
set_option maxHeartbeats 2000000 in
theorem with_any(w:World)(l:List Obj)(d:Nat)(p q:Option Addr)(fi n g u x c:Nat)(ts:List (List Nat))(A:Nat→Prop)(hA:∀i,l.length≤i→A i)(hv:RowV A w l 1 ts.length (.slice q x c) (strs ts))(s:ByteArray)(hs:s.size≤1000000)(hu:u≤1000000)(ht:ts.length≤100000) :
  Calls Tryz.prog 57 #[.agg (hcl (.pointer p) fi n g (.slice q x c) u),.string s] (Wd w l d) fun e w'=>∃vt' l' d',e=.returned (.agg (hcl (.pointer p) fi n g vt' (u+secs s.size)))∧w'=Wd w l' d'∧RowV A w l' 1 (ts.length+1) vt' (strs (ts++[bys s]))∧l.length≤l'.length∧∀i,i<l.length→NotAt w (.slice q x c) i→l'[i]?=l[i]?:=by
 obtain⟨S,hS⟩:∃S,secs s.size=S:=⟨_,rfl⟩
 have hSb:S≤1000000:=by rw[←hS];unfold secs;omega
 have HSEC:Hid (∀W,Calls Tryz.prog 81 #[.int .i64 (s.size:Int)] W fun e w'=>e=.returned (.int .i64 (S:Int))∧Grows W w'):=Lib.hid fun W=>by rw[←hS];exact(sectors_any s.size (by omega) W).mono fun _ _ ⟨h1,h2⟩=>⟨h1,h2▸Grows.refl _⟩
 have HC:=Lib.hid (clone_any s hs)
 have HV:=Lib.hid hv
 rw[hS]
 obtain⟨U,hU⟩:∃U,u+S=U:=⟨_,rfl⟩
 have hSi:(u:Int)+(S:Int)=(U:Int):=by omega
 have hUb:U≤2000000:=by omega
 rw[hU]
 clear hv hS hU
 obtain⟨L0,hL0⟩:∃L0,l++[Obj.cells (hcl (.pointer p) fi n g (.slice q x c) u) 107 (0,0)]++[Obj.cells (hcl (.pointer none) 0 0 0 (.slice none 0 0) 0) 107 (0,0)]=L0:=⟨_,rfl⟩
 have h0:L0[l.length]?=some (.cells (hcl (.pointer p) fi n g (.slice q x c) u) 107 (0,0)):=by rw[←hL0];simp
 have h1:L0[l.length+1]?=some (.cells (hcl (.pointer none) 0 0 0 (.slice none 0 0) 0) 107 (0,0)):=by rw[←hL0];simp
 have HB1:=Lib.hid fun (g':List Obj) (e:Nat)=>big_call (L:=fun g'=>L0++g') (g:=g') (e:=e) (w:=w) (l0:=L0) (fun _ _=>List.append_assoc _ _ _) (fun _=>rfl) (HSEC.out _)
 have H0:=Lib.hid h0
 have H1:=Lib.hid h1
 go_enter Tryz.func57,Tryz.ntmps57
 have H0g:Hid (∀g',(L0++g')[l.length]?=some (.cells (hcl (.pointer p) fi n g (.slice q x c) u) 107 (0,0))):=Lib.hid fun g'=>app_some h0
 have hsm0:∀i,i<l.length→L0[i]?=l[i]?:=fun i hi=>by rw[←hL0,List.append_assoc,List.getElem?_append_left hi]
 have HS0:=Lib.hid hsm0
 have h0g:=H0g.out
 clear hsm0
 go_wp2
 refine wp_region_big 7 (by kernel_rfl) (by kernel_rfl) ?_
 simp only[List.take_succ_cons,List.take_zero,List.drop_succ_cons,List.drop_zero]
 repeat (go_big_quiet_step ((intro _;with_reducible exact HB1.out _ _)))
 refine wpQuiet_nil ?_
 intro gR eR
 go_wp2
 obtain⟨L1,hL1⟩:∃L1,(L0++gR).set l.length (.cells (hcl (.pointer p) fi n g (.slice q x c) U) 107 (0,0))=L1:=⟨_,rfl⟩
 have HL0:Hid (L1[l.length]?=some (.cells (hcl (.pointer p) fi n g (.slice q x c) U) 107 (0,0))):=Lib.hid (by rw[←hL1];exact set_some (app_some H0.out))
 have HL1:Hid (L1[l.length+1]?=some (.cells (hcl (.pointer none) 0 0 0 (.slice none 0 0) 0) 107 (0,0))):=Lib.hid (by rw[←hL1];exact set_other (by omega) (app_some H1.out))
 have HSM:Hid (∀i,i<l.length→L1[i]?=l[i]?):=Lib.hid fun i hi=>by rw[←hL1,List.getElem?_set_ne (by omega),List.getElem?_append_left (by have:=(List.getElem?_eq_some_iff.1 H1.out).1;omega)];exact HS0.out i hi
 rw[hL1]
 have HBK:Hid (blk (Wd w L1 eR) (w.heap.size+l.length)=some (.cells (hcl (.pointer p) fi n g (.slice q x c) U) 107 (0,0))):=Lib.hid (by rw[blk_at];exact HL0.out)
 clear hL1 h0g h0 h1 hL0 HB1
 refine wp_region_fine_drop 5 (TL [eqv (.pointer (some ⟨w.heap.size+l.length,4,none⟩)),eqv (.slice q x c),eqv (.string s),eqv (.string s),litB w.heap.size (.string s) 9]) (by kernel_rfl) (by kernel_rfl) (by kernel_rfl) (by kernel_rfl) (TL_last (List.forall_mem_cons.2 ⟨eqv_last _,List.forall_mem_cons.2 ⟨eqv_last _,List.forall_mem_cons.2 ⟨eqv_last _,List.forall_mem_cons.2 ⟨eqv_last _,List.forall_mem_cons.2 ⟨litB_last _ _ _,fun _ h=>(List.not_mem_nil h).elim⟩⟩⟩⟩⟩)) (TL_no_guard (by kernel_rfl)) ?_ ?_
 ·intro i o ho a W hB hdep hfix
  simp only[List.take_succ_cons,List.take_zero]at ho hdep hfix
  match i,ho with
  |0,ho =>
   obtain rfl:=Option.some.inj ho
   exact lays_eq _ rfl (exec_field (off:=4) (hfix 2 (by decide +kernel)) (by simp[go_sem]))
  |1,ho =>
   obtain rfl:=Option.some.inj ho
   have e1:a.tmps.getD 12 undef=.pointer (some ⟨w.heap.size+l.length,4,none⟩):=hdep 0 _ 12 rfl rfl (by decide +kernel)
   exact lays_eq _ rfl (exec_load e1 (ldH4 (isaj32 W) (blk_below hB HBK.out)))
  |2,ho =>
   obtain rfl:=Option.some.inj ho
   exact lays_eq _ rfl (exec_move (hfix 1 (by decide +kernel)))
  |3,ho =>
   obtain rfl:=Option.some.inj ho
   have e1:a.tmps.getD 14 undef=.string s:=hdep 2 _ 14 rfl rfl (by decide +kernel)
   exact lays_call #[.string s] (by simp[Act.eval,e1]) (by kernel_rfl) ((HC.out W).mono fun e W' ⟨he,hg⟩=>⟨_,he,hg.below,rfl⟩)
  |4,ho =>
   obtain rfl:=Option.some.inj ho
   have e1:a.tmps.getD 15 undef=.string s:=hdep 3 _ 15 rfl rfl (by decide +kernel)
   exact lays_bsB (by have:=hB.size;rw[Wd_size]at this;omega) (fun w l d=>bsj32s _ w l d) e1 (fun _ _ h=>h)
  |i+5,ho=>simp at ho
 ·intro a W hB hd hsz hfix hT
  simp only[List.take_succ_cons,List.take_zero,List.drop_succ_cons,List.drop_zero]at hfix hT ⊢
  have f2:a.tmps.getD 2 undef=.pointer (some ⟨w.heap.size+l.length,0,none⟩):=hfix 2 (by decide +kernel)
  have f4:a.tmps.getD 4 undef=.pointer (some ⟨w.heap.size+(l.length+1),0,none⟩):=hfix 4 (by decide +kernel)
  have f13:a.tmps.getD 13 undef=.slice q x c:=hT 1 _ 13 rfl rfl
  have g16:litB w.heap.size (.string s) 9 (a.tmps.getD 16 undef) W:=hT 4 _ 16 rfl rfl
  rw[frame_lit a 20 hsz hd]
  clear hfix hT hsz hd
  simp only[List.range,List.range.loop,List.map]
  generalize a.tmps=t at *
  simp only[f2,f4,f13]
  clear f2 f4 f13
  obtain⟨gS,dS,rfl⟩:=below_grows hB
  obtain⟨b,hb1,hb2,hb3⟩:=g16
  simp only[hb2]
  obtain⟨j,rfl⟩:∃j,b=w.heap.size+j:=⟨b-w.heap.size,by omega⟩
  rw[blk_at]at hb3
  obtain⟨L2,hL2⟩:∃L2,L1++gS=L2:=⟨_,rfl⟩
  rw[hL2]at hb3 ⊢
  have hg0:L2[l.length]?=some (.cells (hcl (.pointer p) fi n g (.slice q x c) U) 107 (0,0)):=by rw[←hL2];exact app_some HL0.out
  have hg1:L2[l.length+1]?=some (.cells (hcl (.pointer none) 0 0 0 (.slice none 0 0) 0) 107 (0,0)):=by rw[←hL2];exact app_some HL1.out
  have hlen:l.length+2≤L2.length:=by have:=(List.getElem?_eq_some_iff.1 hg1).1;omega
  have hsame:∀i,i<l.length→L2[i]?=l[i]?:=fun i hi=>by rw[←hL2,List.getElem?_append_left (by have:=(List.getElem?_eq_some_iff.1 HL1.out).1;omega)];exact HSM.out i hi
  have HRV:Hid (RowV (fun p=>A p∧p≠l.length∧p≠l.length+1) w L2 1 ts.length (.slice q x c) (strs ts)):=Lib.hid (HV.out.mono fun i hi hlt=>⟨⟨hi,by omega,by omega⟩,hsame i hlt⟩)
  have HLT:Hid (RowV (fun _=>True) w L2 1 1 (.slice (some ⟨w.heap.size+j,0,none⟩) 1 1) [.string s]):=Lib.hid (.inr ⟨j,1,[.string s],9,trivial,rfl,hb3,rfl,Nat.le_refl _,rfl⟩)
  have HSAME:=Lib.hid hsame
  have HG0:=Lib.hid hg0
  have HG1:=Lib.hid hg1
  have HLEN:=Lib.hid hlen
  clear hL2 hb3 hb1 hB hg0 hg1 hsame hb2
  go_wp2_with (refine wpList_row rfl (.tmp 13) (.tmp 16) 29 9 rfl rt32 (A:=fun p=>A p∧p≠l.length∧p≠l.length+1) (B:=fun _=>True) (fun p hp=>⟨hA p (by have:=HLEN.out;omega),by have:=HLEN.out;omega,by have:=HLEN.out;omega⟩) (.slice q x c) ts.length (strs ts) rfl HRV.out (.slice (some ⟨w.heap.size+j,0,none⟩) 1 1) 1 [.string s] rfl HLT.out (by intro u hu;rw[List.mem_singleton.1 hu];rfl) (by omega) ?_)
  intro v' l' d' HR1 HR2 HR3
  have hv1:=RowV.one HR1.out
  have hg0:l'[l.length]?=some (.cells (hcl (.pointer p) fi n g (.slice q x c) U) 107 (0,0)):=(HR3.out _ (by have:=HLEN.out;omega) (HV.out.beyond (Nat.le_refl _))).trans HG0.out
  have hg1:l'[l.length+1]?=some (.cells (hcl (.pointer none) 0 0 0 (.slice none 0 0) 0) 107 (0,0)):=(HR3.out _ (by have:=HLEN.out;omega) (HV.out.beyond (by omega))).trans HG1.out
  have hg0':∀X,(l'.set l.length X)[l.length]?=some X:=fun X=>set_some hg0
  have hg1':∀X,(l'.set l.length X)[l.length+1]?=some (.cells (hcl (.pointer none) 0 0 0 (.slice none 0 0) 0) 107 (0,0)):=fun X=>set_other (by omega) hg1
  go_wp2
  refine ret_mix (i:=l.length+1) (c:=hcl (.pointer p) fi n g v' U) (t:=107) (f:=(0,0)) rfl rfl agj61 (set_some (hg1' _)) rfl rfl ⟨v',_,_,rfl,rfl,?_,?_,fun i hi hn=>?_⟩
  ·rw[strs_snoc]
   exact HR1.out.mono fun i hi _=>⟨hi.1,by rw[List.getElem?_set_ne (fun e=>hi.2.2 e.symm),List.getElem?_set_ne (fun e=>hi.2.1 e.symm)]⟩
  ·have h1:=HR2.out
   have h2:=HLEN.out
   simp only[List.length_set];omega
  ·rw[List.getElem?_set_ne (by omega),List.getElem?_set_ne (by omega),HR3.out i (by have:=HLEN.out;omega) hn]
   exact HSAME.out i hi
end Go.Proofs.YtlogjpmdfimgdaaGreatDoor.Jf
namespace Go.Proofs.YtlogjpmdfimgdaaGreatDoor.Jf
open Go Go.RowKit Go.Own.Jf Go.Own.Fr
attribute [-go_sem] Sm.execOp_bs run_string_add_if
attribute [local go_sem] agj61 csj61 szj61 agj25 isaj25 csj25 szj25 agj32 isaj32 csj32 szj32 agj38 isaj38 csj38 szj38 agj54 isaj54 csj54 szj54 agj9 isaj9 csj9 szj9 zj61 alXA ldH0 ldH1 ldH2 ldH3 ldH4 ldH5 ldHA
def StpAt(w:World)(L:List Obj)(A:Nat→Prop)(i:Nat)(v:Value):Stp→Prop
 | .f=>v=.func (.func 86) #[.pointer (some ⟨w.heap.size+i,0,none⟩)] #[]
 | .w a s=>∃b1 b2 b3 fi n g u vt at' y,A b1∧A b2∧A b3∧v=.func (.func 118) #[] #[.pointer (some ⟨w.heap.size+b1,0,none⟩),.pointer (some ⟨w.heap.size+b2,0,none⟩),.pointer (some ⟨w.heap.size+b3,0,none⟩)] ∧
   L[b1]?=some (.cells (hcl (.pointer (some ⟨w.heap.size+i,0,none⟩)) fi n g vt u) 107 (0,0))∧L[b2]?=some (.cells #[.int .i64 ((at':Nat):Int)] 3 (0,0))∧L[b3]?=some (.cells #[.string y] 9 (0,0))∧fi+at'=a∧bys y=s∧a≤1000000
theorem StpAt.mono{w:World}{L L':List Obj}{A B:Nat→Prop}{i:Nat}{v:Value}{s:Stp}(h:StpAt w L A i v s)(hl:∀p,A p→p<L.length→B p∧L'[p]?=L[p]?):StpAt w L' B i v s:=by
 cases s with
 |f=>exact h
 |w a s =>
  obtain⟨b1,b2,b3,fi,n,g,u,vt,at',y,h1,h2,h3,hv,e1,e2,e3,h4⟩:=h
  have k1:=hl b1 h1 (List.getElem?_eq_some_iff.1 e1).1
  have k2:=hl b2 h2 (List.getElem?_eq_some_iff.1 e2).1
  have k3:=hl b3 h3 (List.getElem?_eq_some_iff.1 e3).1
  exact⟨b1,b2,b3,fi,n,g,u,vt,at',y,k1.1,k2.1,k3.1,hv,by rw[k1.2];exact e1,by rw[k2.2];exact e2,by rw[k3.2];exact e3,h4⟩
theorem StpAt.one{w:World}{L:List Obj}{A:Nat→Prop}{i:Nat}{v:Value}{s:Stp}(h:StpAt w L A i v s):v.oneCell'=true:=by
 cases s with
 |f=>subst h;rfl
 |w a s=>obtain⟨b1,b2,b3,fi,n,g,u,vt,at',y,h1,h2,h3,rfl,_⟩:=h;rfl
def Steps(w:World)(L:List Obj)(A:Nat→Prop)(i:Nat)(vs:List Value)(ss:List Stp):Prop :=
 vs.length=ss.length∧∀(k:Nat) v s,vs[k]?=some v→ss[k]?=some s→StpAt w L A i v s
theorem Steps.nil(w:World)(L:List Obj)(A:Nat→Prop)(i:Nat):Steps w L A i [] []:=⟨rfl,fun k v s h _=>by simp at h⟩
theorem Steps.single{w:World}{L:List Obj}{A:Nat→Prop}{i:Nat}{v:Value}{s:Stp}(h:StpAt w L A i v s):Steps w L A i [v] [s]:=⟨rfl,fun k v' s' h1 h2=>by
 cases k with
 |zero=>simp at h1 h2;subst h1;subst h2;exact h
 |succ k=>simp at h1⟩
theorem Steps.append{w:World}{L:List Obj}{A:Nat→Prop}{i:Nat}{vs us:List Value}{ss rs:List Stp}(h:Steps w L A i vs ss)(k:Steps w L A i us rs):Steps w L A i (vs++us) (ss++rs):=by
 refine⟨by rw[List.length_append,List.length_append,h.1,k.1],fun j v s h1 h2=>?_⟩
 by_cases hj:j<vs.length
 ·rw[List.getElem?_append_left hj]at h1
  rw[List.getElem?_append_left (by rw[←h.1];exact hj)]at h2
  exact h.2 j v s h1 h2
 ·rw[List.getElem?_append_right (by omega)]at h1
  rw[List.getElem?_append_right (by have:=h.1;omega)]at h2
  exact k.2 _ v s h1 (by rw[h.1];exact h2)
theorem Steps.mono{w:World}{L L':List Obj}{A B:Nat→Prop}{i:Nat}{vs:List Value}{ss:List Stp}(h:Steps w L A i vs ss)(hl:∀p,A p→p<L.length→B p∧L'[p]?=L[p]?):Steps w L' B i vs ss :=
 ⟨h.1,fun k v s h1 h2=>(h.2 k v s h1 h2).mono hl⟩
theorem Steps.one{w:World}{L:List Obj}{A:Nat→Prop}{i:Nat}{vs:List Value}{ss:List Stp}(h:Steps w L A i vs ss):∀v∈vs,v.oneCell'=true:=fun v hv=>by
 obtain⟨k,hk⟩:=List.getElem?_of_mem hv
 have hk2:k<ss.length:=by rw[←h.1];exact(List.getElem?_eq_some_iff.1 hk).1
 exact(h.2 k v _ hk (List.getElem?_eq_getElem hk2)).one
set_option maxRecDepth 100000 in
theorem write_step(w:World)(l:List Obj)(d i fi n g u:Nat)(vt:Value)(k:Nat)(y:ByteArray)(hk:fi+k≤1000000) :
  Calls Tryz.prog 83 #[.agg (hcl (.pointer (some ⟨w.heap.size+i,0,none⟩)) fi n g vt u),.int .i64 (k:Int),.string y] (Wd w l d) fun e w'=>∃v g' d',e=.returned v∧w'=Wd w (l++g') d'∧StpAt w (l++g') (fun p=>l.length≤p) i v (.w (fi+k) (bys y)):=by
 go_enter Tryz.func83,Tryz.ntmps83
 go_wp2
 go_ret
 refine⟨_,_,_,rfl,rfl,l.length,l.length+1,l.length+2,fi,n,g,u,vt,k,y,by omega,by omega,by omega,rfl,?_,?_,?_,rfl,rfl,hk⟩
 ·simp
 ·rw[List.getElem?_append_right (by omega),Nat.add_sub_cancel_left];rfl
 ·rw[List.getElem?_append_right (by omega),Nat.add_sub_cancel_left];rfl
attribute [local go_sem] bsj78
set_option maxRecDepth 100000 in
theorem ending_any(w:World)(l:List Obj)(d i fi n g u:Nat)(vt:Value)(hu:u≤n)(hn:n≤100000)(hfi:fi≤100000)(ts:List (List Nat)) :
  Calls Tryz.prog 60 #[.agg (hcl (.pointer (some ⟨w.heap.size+i,0,none⟩)) fi n g vt u)] (Wd w l d) fun e w'=>∃v vs g' d',e=.returned v∧w'=Wd w (l++g') d'∧RowV (fun p=>l.length≤p) w (l++g') 1 (⟨fi,n,g,u,ts⟩:Hf).ending.length v vs∧Steps w (l++g') (fun p=>l.length≤p) i vs (⟨fi,n,g,u,ts⟩:Hf).ending:=by
 by_cases h0:u=n
 ·subst h0
  have he:(⟨fi,u,g,u,ts⟩:Hf).ending=[]:=by unfold Hf.ending;rw[if_pos rfl]
  rw[he]
  go_enter Tryz.func60,Tryz.ntmps60
  go_wp2
  go_ret
  exact⟨_,[],_,_,rfl,rfl,.inl ⟨rfl,rfl,rfl⟩,Steps.nil _ _ _ _⟩
 ·have he:(⟨fi,n,g,u,ts⟩:Hf).ending=[.w (fi+u) []]:=by unfold Hf.ending;rw[if_neg h0]
  rw[he]
  have h0i:¬(u:Int)=(n:Int):=by omega
  have HW:=Lib.hid fun l d=>write_step w l d i fi n g u vt u .empty (by omega)
  clear h0
  go_enter Tryz.func60,Tryz.ntmps60
  go_wp2_with fail
  refine(HW.out _ _).mono ?_
  rintro e w' ⟨v,g',d',rfl,rfl,hst⟩
  have hv1:=hst.one
  have HST:=Lib.hid hst
  clear hst
  go_wp2
  go_ret
  have hx:∀p,p<(l++[Obj.cells (hcl (.pointer (some ⟨w.heap.size+i,0,none⟩)) fi n g vt u) 107 (0,0)]++g').length→(l++Obj.cells (hcl (.pointer (some ⟨w.heap.size+i,0,none⟩)) fi n g vt u) 107 (0,0) :: (g'++[Obj.cells #[v] 131 (0,0)]))[p]?=(l++[Obj.cells (hcl (.pointer (some ⟨w.heap.size+i,0,none⟩)) fi n g vt u) 107 (0,0)]++g')[p]?:=fun p hp=>by
   have e:l++Obj.cells (hcl (.pointer (some ⟨w.heap.size+i,0,none⟩)) fi n g vt u) 107 (0,0) :: (g'++[Obj.cells #[v] 131 (0,0)])=(l++[Obj.cells (hcl (.pointer (some ⟨w.heap.size+i,0,none⟩)) fi n g vt u) 107 (0,0)]++g')++[Obj.cells #[v] 131 (0,0)]:=by simp
   rw[e,List.getElem?_append_left hp]
  refine⟨_,[v],_,_,rfl,rfl,.inr ⟨l.length+(g'.length+1),1,[v],131,by omega,?_,?_,rfl,Nat.le_refl _,rfl⟩,Steps.single (HST.out.mono fun p hp hlt=>⟨by simp at hp;omega,hx p hlt⟩)⟩
  ·rfl
  ·rw[List.getElem?_append_right (by omega),Nat.add_sub_cancel_left,List.getElem?_cons_succ];simp
end Go.Proofs.YtlogjpmdfimgdaaGreatDoor.Jf
namespace Go.Own.Jf
open Go Go.RowKit Go.Own.Fr
theorem RowV.monoC{A B:Nat→Prop}{w:World}{l l':List Obj}{sz n:Nat}{v:Value}{C:List Value}(h:RowV A w l sz n v C)(hl:∀p c t f,A p→l[p]?=some (.cells c t f)→B p∧l'[p]?=some (.cells c t f)):RowV B w l' sz n v C:=by
 rcases h with h | ⟨i,c,X,t,hA,hv,hi,h⟩
 ·exact .inl h
 ·have:=hl i _ _ _ hA hi
  exact .inr ⟨i,c,X,t,this.1,hv,this.2,h⟩
theorem RowV.cellsAt{A:Nat→Prop}{w:World}{l:List Obj}{sz n:Nat}{v:Value}{C:List Value}(h:RowV A w l sz n v C){p:Nat}{o:Obj}(hp:l[p]?=some o)(ho:o.isCells=false):NotAt w v p:=by
 rcases h with⟨rfl,_⟩ | ⟨i,c,X,t,_,rfl,hi,_⟩
 ·intro n c e;simp at e
 ·intro n' c' e
  simp at e
  have:i=p:=by omega
  subst this
  rw[hp]at hi
  obtain rfl:=Option.some.inj hi
  cases ho
end Go.Own.Jf
namespace Go.Proofs.YtlogjpmdfimgdaaGreatDoor.Jf
open Go Go.RowKit Go.Own.Jf Go.Own.Fr
theorem StpAt.monoC{w:World}{L L':List Obj}{A B:Nat→Prop}{i:Nat}{v:Value}{s:Stp}(h:StpAt w L A i v s)(hl:∀p c t f,A p→L[p]?=some (.cells c t f)→B p∧L'[p]?=some (.cells c t f)):StpAt w L' B i v s:=by
 cases s with
 |f=>exact h
 |w a s =>
  obtain⟨b1,b2,b3,fi,n,g,u,vt,at',y,h1,h2,h3,hv,e1,e2,e3,h4⟩:=h
  have k1:=hl b1 _ _ _ h1 e1
  have k2:=hl b2 _ _ _ h2 e2
  have k3:=hl b3 _ _ _ h3 e3
  exact⟨b1,b2,b3,fi,n,g,u,vt,at',y,k1.1,k2.1,k3.1,hv,k1.2,k2.2,k3.2,h4⟩
theorem Steps.monoC{w:World}{L L':List Obj}{A B:Nat→Prop}{i:Nat}{vs:List Value}{ss:List Stp}(h:Steps w L A i vs ss)(hl:∀p c t f,A p→L[p]?=some (.cells c t f)→B p∧L'[p]?=some (.cells c t f)):Steps w L' B i vs ss :=
 ⟨h.1,fun k v s h1 h2=>(h.2 k v s h1 h2).monoC hl⟩
def stO(fi u:Nat)(x:Ck):List Stp:=(if x.1.1=0 then [.f]else [])++[.w (fi+(u+x.1.1)) (bys x.1.2)]
def stL(fi u:Nat)(xs:List Ck):List Stp:=xs.flatMap (stO fi u)
theorem stL_snoc(fi u:Nat)(xs:List Ck)(x:Ck):stL fi u (xs++[x])=stL fi u xs++stO fi u x:=by simp[stL]
theorem ck_chunk(y:ByteArray)(n k:Nat):bys (ckB y n k).1.2=chunk (bys y) (n-1-k):=by
 show bys (y.extract _ _)=_
 rw[bys_extract]
 unfold chunk
 have hl:=bys_length y
 rcases Nat.le_total ((n-1-k)*64+64) y.size with h | h
 ·rw[Nat.min_eq_left h,Nat.add_sub_cancel_left]
 ·rw[Nat.min_eq_right h,List.take_of_length_le (by rw[List.length_drop];omega),List.take_of_length_le (by rw[List.length_drop];omega)]
theorem down_stL(h:Hf)(y:ByteArray)(n:Nat)(hb:n≤100000):∀c,c<n→h.down (bys y) c=((List.range' (n-1-c) (c+1)).map (ckB y n)).flatMap (stO h.first h.used)
 |0,hc=>by
  have e1:(ckB y n (n-1)).1.1=0:=by show min _ _=0;omega
  have e2:=ck_chunk y n (n-1)
  rw[show n-1-(n-1)=0 by omega]at e2
  simp[List.range'_succ,stO,e1,e2,Hf.down]
 |c+1,hc=>by
  have ih:=down_stL h y n hb c (by omega)
  have e1:(ckB y n (n-1-(c+1))).1.1=c+1:=by show min _ _=_;omega
  have e2:=ck_chunk y n (n-1-(c+1))
  rw[show n-1-(n-1-(c+1))=c+1 by omega]at e2
  rw[List.range'_succ,List.map_cons,List.flatMap_cons,show n-1-(c+1)+1=n-1-c by omega,←ih]
  show _ :: _=_
  simp[stO,e1,e2]
theorem stL_down(h:Hf)(y:ByteArray)(n:Nat)(hb:n≤100000)(h0:1≤n):stL h.first h.used (cksB y n n)=h.down (bys y) (n-1):=by
 rw[down_stL h y n hb (n-1) (by omega),show n-1-(n-1)=0 by omega,show n-1+1=n by omega,←List.range_eq_range']
 rfl
attribute [-go_sem] Sm.execOp_bs run_string_add_if
set_option maxRecDepth 100000 in
theorem fromLast_any(w:World)(l:List Obj)(d:Nat)(y:ByteArray) :
  Calls Tryz.prog 84 #[.string y] (Wd w l d) fun e w'=>e=.returned (.func (.func 120) #[] #[.pointer (some ⟨w.heap.size+l.length,0,none⟩)])∧w'=Wd w (l++[.cells #[.string y] 9 (0,0)]) d:=by
 go_enter Tryz.func84,Tryz.ntmps84
 go_wp2
 go_ret
 exact⟨rfl,rfl⟩
def LayI(w:World)(M:List Obj)(i b2 b6:Nat)(half:Obj)(fi u:Nat)(pre:List Ck)(W:World):Prop :=
 ∃L d v vs,W=Wd w L d∧M.length≤L.length∧(∀p,p<M.length→p≠b6→L[p]?=M[p]?)∧L[b6]?=some (.cells #[v] 129 (0,0))∧L[b2]?=some half ∧
  RowV (fun p=>M.length≤p) w L 1 vs.length v vs∧Steps w L (fun p=>M.length≤p) i vs (stL fi u pre)
theorem LayI.own{w:World}{M:List Obj}{i b2 b6 fi u B:Nat}{dv vt:Value}{a n g u':Nat}(hB:B=w.heap.size+M.length):OwnFrom B (LayI w M i b2 b6 (.cells (hcl dv a n g vt u') 107 (0,0)) fi u):=by
 subst hB
 rintro pre W W' row ⟨L,d,v,vs,rfl,hlen,hsame,h6,h2,hrow,hst⟩ hg hr
 obtain⟨L',d',rfl,hlen',hk⟩:=grown_wd hg (fun r e=>by have:=(hr r e).1;omega)
 have hc:∀(p:Nat) c t f,L[p]?=some (Obj.cells c t f)→L'[p]?=some (Obj.cells c t f):=fun p c t f hp=>by
  rw[hk p (List.getElem?_eq_some_iff.1 hp).1 (fun e=>?_)];· exact hp
  obtain⟨_,o,ho,hoc⟩:=hr _ e
  rw[Wd_at,hp]at ho
  obtain rfl:=Option.some.inj ho
  cases hoc
 refine⟨L',d',v,vs,rfl,by omega,fun p hp hne=>?_,hc _ _ _ _ h6,hc _ _ _ _ h2,hrow.monoC fun p c t f hA hp=>⟨hA,hc _ _ _ _ hp⟩,hst.monoC fun p c t f hA hp=>⟨hA,hc _ _ _ _ hp⟩⟩
 rw[hk p (by omega) (fun e=>by have:=(hr _ e).1;omega)]
 exact hsame p hp hne
end Go.Proofs.YtlogjpmdfimgdaaGreatDoor.Jf
namespace Go.Proofs.YtlogjpmdfimgdaaGreatDoor.Jf
open Go Go.RowKit Go.Own.Jf Go.Own.Fr
theorem wp_sectors{tp tq:Nat}{g:Operand}{assign body:Code}{Q:Exit→Act→World→Prop}{a:Act}{w:World}(t:ByteArray)(ht:t.size≤1000000)(h1:1≤t.size)(b:Nat)(hb:blk w b=some (.cells #[.string t] 9 (0,0)))
  (hg:a.eval g=.func (.func 120) #[] #[.pointer (some ⟨b,0,none⟩)]) (I:List Ck→World→Prop) (hI:OwnFrom w.heap.size I) (h0:I [] w) (a₁:Ck→Act)
  (hassign:∀(l:Nat) (x:Ck) (W:World) (K:Act→World→Prop),K (a₁ x) W→assign.wpIn (rnd l) 1 Tryz.prog (Exit.then K (fun _ _ _=>False)) { tmps:=(a.tmps.setIfInBounds tp (.int .i64 ((x.1.1:Nat):Int))).setIfInBounds tq (.string x.1.2),defers:=[] } W)
  (hbody:∀(l:Nat) (pre:List Ck) (x:Ck) (W:World),I pre W→pre.length<(t.size+63)/64→body.wpIn (rnd l) 1 Tryz.prog (ownPostK (KeepsB b) I (fun _ _ _=>False) (pre++[x]) W) (a₁ x) W)
  (hdone:∀(D:Nat) (W:World),w.heap.size≤D→I (cksB t ((t.size+63)/64) ((t.size+63)/64)) W→W.heap[D]?=some (.deferred (some []))→Q .normal { a with defers:={ target:=.collected D,args:=#[] } :: a.defers } W) :
  (Code.rangeFunc g #[tp,tq] assign body).wp Tryz.prog Q a w:=by
 have hbl:b<w.heap.size:=by
  unfold blk at hb
  rcases Nat.lt_or_ge b w.heap.size with h' | h'
  ·exact h'
  ·simp[Array.getElem?_eq_none h']at hb
 refine(wpIn_wide (n:=3)).1 ?_
 refine wpIn_rangeFunc_ownF (F:=Fence.wide) rfl (by decide) (gf:=120) hg trivial (enters_of Tryz.func120 (by kernel_rfl) rfl) (chunks_stops t ht h1 b (3-1) w hb) (fun h k o ho=>k o (h o ho)) (fun W l o o' hl _ _ _ o2 ho2=>?_)
  (Below.refl _ _) (fun _=>rfl) I (fun _ _ _=>False) hI (fun _ _ _ _ _ hs _ _=>hs) h0 a₁ (fun l x W K hK=>?_) (fun l pre x W hW hlen=>hbody l pre x W hW hlen) ?_ ?_
 ·unfold blk at ho2 ⊢
  rw[World.putObj_heap_other (by omega)];exact ho2
 ·have e:(#[tp,tq].zip (encC x)).foldl (fun t (p,v)=>t.setIfInBounds p v) a.tmps=(a.tmps.setIfInBounds tp (.int .i64 ((x.1.1:Nat):Int))).setIfInBounds tq (.string x.1.2):=by simp[encC]
  rw[e]
  exact hassign l x W K hK
 ·rintro D xs W hD rfl hW hK
  exact hdone D W hD hW hK
 ·rintro D c pre W _ _ h _
  exact h.elim
def stB(w:World)(B i:Nat)(s:Stp)(v:Value)(W:World):Prop:=∃L d,W=Wd w L d∧StpAt w L (fun p=>B≤p) i v s
theorem stB_last(w:World)(B i:Nat)(s:Stp):Lasts (stB w B i s):=by
 rintro v W W' ⟨L,d,rfl,h⟩ hB
 obtain⟨g,d',rfl⟩:=below_grows hB
 exact⟨L++g,d',rfl,h.mono fun p hp hlt=>⟨hp,List.getElem?_append_left hlt⟩⟩
def slB(w:World)(B i:Nat)(s:Stp)(v:Value)(W:World):Prop:=∃x b L d,W=Wd w L d∧B≤b∧v=.slice (some ⟨w.heap.size+b,0,none⟩) 1 1∧L[b]?=some (.cells #[x] 131 (0,0))∧StpAt w L (fun p=>B≤p) i x s
theorem slB_last(w:World)(B i:Nat)(s:Stp):Lasts (slB w B i s):=by
 rintro v W W' ⟨x,b,L,d,rfl,hb,hv,hx,h⟩ hB
 obtain⟨g,d',rfl⟩:=below_grows hB
 exact⟨x,b,L++g,d',rfl,hb,hv,app_some hx,h.mono fun p hp hlt=>⟨hp,List.getElem?_append_left hlt⟩⟩
set_option maxRecDepth 100000 in
theorem lays_slB{dst:Option Tmp}{ty:TypeId}{pos:String}{after:Array Edge}{guard:Option (Nat×Bool)}{x:Operand}{W:World}{j:Nat}{ps:List (Value→World→Prop)}{a:Act}{w:World}{B i:Nat}{s:Stp}(hBW:∀L d,W=Wd w L d→B≤L.length)
  (h1:stB w B i s (a.eval x) W) (hT:∀u W,slB w B i s u W→TL ps j u W):Lays Tryz.prog (TL ps) j { dst,op:=.buildSlice 129 1 #[(0,x)],type:=ty,pos,after,guard } a W:=by
 obtain⟨L,d,rfl,h⟩:=h1
 have hb:=bsj78 h.one w L d
 unfold bsN at hb
 have he:(execOp a.eval { dst,op:=.buildSlice 129 1 #[(0,x)],type:=ty,pos,after,guard }).run Tryz.prog (Wd w L d)=.ok (.value (.slice (some ⟨w.heap.size+L.length,0,none⟩) 1 1)) (Wd w (L++[.cells #[a.eval x] 131 (0,0)]) d):=by
  unfold execOp
  simp only[List.map_toArray,List.map_cons,List.map_nil,Sem.run_bind,hb,Result.andThen_ok]
  rfl
 have hB2:Below (Wd w L d).heap.size (Wd w L d) (Wd w (L++[.cells #[a.eval x] 131 (0,0)]) d):=by
  have:=below_alloc (Wd w L d) (.cells #[a.eval x] 131 (0,0)) d
  rwa [Wd_wd]at this
 refine lays_value he hB2 (hT _ _ ⟨a.eval x,L.length,_,d,rfl,hBW L d rfl,rfl,by simp,h.mono fun p hp hlt=>⟨hp,List.getElem?_append_left hlt⟩⟩)
theorem stO_length(fi u:Nat)(x:Ck):(stO fi u x).length≤2:=by unfold stO;split <;> simp
theorem stL_length(fi u:Nat):∀xs:List Ck,(stL fi u xs).length≤2*xs.length
 | []=>Nat.le_refl _
 |x :: xs=>by
  have h1:=stL_length fi u xs
  have h2:=stO_length fi u x
  show ((x :: xs).flatMap (stO fi u)).length≤_
  rw[List.flatMap_cons,List.length_append,List.length_cons]
  unfold stL at h1
  omega
theorem rowV_off{A:Nat→Prop}{w:World}{l:List Obj}{sz n:Nat}{v:Value}{C:List Value}(h:RowV A w l sz n v C){p:Nat}(hp:¬A p):NotAt w v p:=by
 rcases h with⟨rfl,_⟩ | ⟨i,c,X,t,hA,rfl,_,_⟩
 ·intro n c e;simp at e
 ·intro n' c' e
  simp at e
  have:i=p:=by omega
  subst this
  exact hp hA
theorem Wd_inj{w:World}{L L':List Obj}{d d':Nat}(h:Wd w L d=Wd w L' d'):L=L':=by
 have h1:=congrArg World.heap h
 unfold Wd at h1
 simp only at h1
 have h2:=congrArg Array.toList h1
 simpa using h2
theorem rowV_first{A:Nat→Prop}{w:World}{L:List Obj}{n:Nat}{v:Value}{C:List Value}(h:RowV A w L 1 n v C){p n' c':Nat}(hv:v=.slice (some ⟨w.heap.size+p,0,none⟩) n' c'){c:Array Value}{t:TypeId}{f:Nat×Nat}(hp:L[p]?=some (.cells c t f)){y:Value}(hy:C[0]?=some y):c[0]?=some y:=by
 rcases h with⟨rfl,_⟩ | ⟨i,c2,X,t2,_,rfl,hi,hX,hn,rfl⟩
 ·simp at hv
 ·simp at hv
  have:i=p:=by omega
  subst this
  rw[hp]at hi
  simp only[Option.some.injEq,Obj.cells.injEq]at hi
  rw[hi.1,List.getElem?_toArray]
  rw[List.getElem?_take]at hy
  split at hy
  ·exact hy
  ·cases hy
theorem StpAt.fun{w:World}{L:List Obj}{A:Nat→Prop}{i:Nat}{v:Value}{s:Stp}(h:StpAt w L A i v s):∃g a b,v=.func g a b:=by
 cases s with
 |f=>exact⟨_,_,_,h⟩
 |w a s=>obtain⟨b1,b2,b3,fi,n,g,u,vt,at',y,_,_,_,hv,_⟩:=h;exact⟨_,_,_,hv⟩
theorem StpAt.sharp{w:World}{L:List Obj}{A C:Nat→Prop}{i:Nat}{v:Value}{s:Stp}(h:StpAt w L A i v s)(hn:∀(p:Nat) c t f y,L[p]?=some (.cells c t f)→c[0]?=some y→(∀g a b,y≠.func g a b)→C p):StpAt w L (fun p=>A p∧C p) i v s:=by
 cases s with
 |f=>exact h
 |w a s =>
  obtain⟨b1,b2,b3,fi,n,g,u,vt,at',y,h1,h2,h3,hv,e1,e2,e3,h4⟩:=h
  exact⟨b1,b2,b3,fi,n,g,u,vt,at',y,⟨h1,hn _ _ _ _ _ e1 rfl (by intro _ _ _ e;cases e)⟩,⟨h2,hn _ _ _ _ _ e2 rfl (by intro _ _ _ e;cases e)⟩,⟨h3,hn _ _ _ _ _ e3 rfl (by intro _ _ _ e;cases e)⟩,hv,e1,e2,e3,h4⟩
theorem Steps.keep{w:World}{L:List Obj}{A:Nat→Prop}{i:Nat}{v:Value}{vs:List Value}{ss:List Stp}(h:Steps w L A i vs ss)(hr:RowV A w L 1 vs.length v vs):Steps w L (fun p=>A p∧NotAt w v p) i vs ss:=by
 refine⟨h.1,fun k x s hx hs=>(h.2 k x s hx hs).sharp fun p c t f y hp hy hne n' c' e=>?_⟩
 have hk:=(List.getElem?_eq_some_iff.1 hx).1
 have h0:vs[0]?=some vs[0]:=List.getElem?_eq_getElem (by omega)
 have hs0:ss[0]?=some (ss[0]'(by rw[←h.1];omega)):=List.getElem?_eq_getElem _
 obtain⟨g,a,b,hf⟩:=(h.2 0 _ _ h0 hs0).fun
 have:=rowV_first hr e hp h0
 rw[hy]at this
 exact hne g a b ((Option.some.inj this).trans hf)
theorem stO_eq(fi u:Nat)(x:Ck):stO fi u x=(if x.1.1=0 then [Stp.f]else [])++[.w (fi+(u+x.1.1)) (bys x.1.2)]:=rfl
end Go.Proofs.YtlogjpmdfimgdaaGreatDoor.Jf

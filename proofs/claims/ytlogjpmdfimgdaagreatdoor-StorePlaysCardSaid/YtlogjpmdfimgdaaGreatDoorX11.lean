/- The document's Text (f47), by contract. No condition but that the values are small enough. | A row of the document's changes of the call's own, made of pairs. No condition. | The document's texts that make a store anew (f45), by contract. No condition but that the pairs can be printed. -/
import Derived.Test.YtlogjpmdfimgdaaGreatDoorX10
namespace Go.Proofs.YtlogjpmdfimgdaaGreatDoor
open Go Go.RowKit Go.Own Go.Own.Fr Go.Maps Go.WideMaps
def chD(x:ByteArray×V×Bool):V:=.mk 4 0 { data:=#[] } false (.mk 2 0 x.1 false [] :: if x.2.2=true then []else [x.2.1])
theorem chD_of(x:ByteArray×V×Bool):ofV (chD x)=chA (chV x):=by
 obtain⟨k,v,b⟩:=x
 cases b <;> simp[chD,chV,chA,ofV,ofVs]
theorem txD_of(l:List (ByteArray×V×Bool)):ofV (.mk 4 0 { data:=#[] } false (l.map chD))=trA (l.map chV):=by
 rw[show ofV (.mk 4 0 { data:=#[] } false (l.map chD))=.list ((l.map chD).map ofV) by simp[ofV,ofVs_map],trA,List.map_map,List.map_map]
 congr 1
 exact List.map_congr_left fun x _=>chD_of x
theorem txD_few(l:List (ByteArray×V×Bool))(hl:l.length≤300)(h:∀x∈l,x.1.size≤70000∧fewT x.2.1):fewT (.mk 4 0 { data:=#[] } false (l.map chD)):=by
 refine .mk _ _ _ _ _ (by decide) (by rw[List.length_map];exact hl) fun y hy=>?_
 obtain⟨x,hx,rfl⟩:=List.mem_map.1 hy
 obtain⟨h1,h2⟩:=h x hx
 refine .mk _ _ _ _ _ (by decide) ?_ fun z hz=>?_
 ·cases x.2.2 <;> simp
 ·rcases List.mem_cons.1 hz with rfl | hz
  ·exact .mk _ _ _ _ _ h1 (by simp) (fun _ h=>by simp at h)
  ·split at hz
   ·simp at hz
   ·rw[List.mem_singleton.1 hz];exact h2
theorem ld57{W:World}{b o:Nat}{p:Option Addr}{n c:Nat}(h:W.cell? ⟨b,o,none⟩=some (.slice p n c)):(Instr.loadAt 57 (.pointer (some ⟨b,o,none⟩))).run Tryz.prog W=.ok (.slice p n c) W:=by
 simp[Instr.loadAt,go_sem,h]
theorem fa59(b o:Nat)(W:World):(Instr.fieldAt 59 (.pointer (some ⟨b,o,none⟩)) 4).run Tryz.prog W=.ok (.pointer (some ⟨b,o+4,none⟩)) W:=by
 simp[go_sem]
def Sl5(c:Cz)(v:Value)(W:World):Prop:=∃b,v=.slice (some ⟨b,0,none⟩) 1 1∧W.heap[b]?=some (.cells #[c.1,c.2.1,c.2.2.1,c.2.2.2.1,c.2.2.2.2] 59 (0,0))
theorem Sl5_last(c:Cz):Lasts (Sl5 c):=by
 rintro v W W' ⟨b,h1,h2⟩ hB
 exact⟨b,h1,(hB.block b (Array.getElem?_eq_some_iff.1 h2).1).trans h2⟩
theorem exec_bs57{ρ:Operand→Value}{W:World}{dst:Option Tmp}{ty:TypeId}{pos:String}{after:Array Edge}{guard:Option (Nat×Bool)}{x:Operand}{c0 c1 c2 c3 c4:Value}(h1:ρ x=.agg #[c0,c1,c2,c3,c4]) :
  (execOp ρ { dst,op:=.buildSlice 57 1 #[(0,x)],type:=ty,pos,after,guard }).run Tryz.prog W=.ok (.value (.slice (some ⟨W.heap.size,0,none⟩) 1 1)) (W.alloc (.cells #[c0,c1,c2,c3,c4] 59)):=by
 have hb:(Instr.buildSlice 57 1 #[(0,.agg #[c0,c1,c2,c3,c4])]).run Tryz.prog W=.ok (.slice (some ⟨W.heap.size,0,none⟩) 1 1) (W.alloc (.cells #[c0,c1,c2,c3,c4] 59)):=by kernel_rfl
 unfold execOp
 simp only[List.map_toArray,List.map_cons,List.map_nil,h1,Sem.run_bind,hb,Result.andThen_ok]
 rfl
theorem row_one{W:World}{B:Nat}{N:Nat→Prop}{b:Nat}{c0 c1 c2 c3 c4:Value}{x:V}(hB:B≤b)(hb:W.heap[b]?=some (.cells #[c0,c1,c2,c3,c4] 59 (0,0)))(hv:VAt W (fun k=>N k∧k≠b) (.agg #[c0,c1,c2,c3,c4]) x) :
  RowV W B N (.slice (some ⟨b,0,none⟩) 1 1) [x]:=by
 refine⟨[[c0,c1,c2,c3,c4]],rfl,fun u hu=>by rw[List.mem_singleton.1 hu];rfl,⟨rfl,.inr ⟨b,1,#[c0,c1,c2,c3,c4],rfl,hB,hb,Nat.le_refl _,by decide,rfl,rfl⟩⟩,fun i y hy=>?_⟩
 have h0:i=0:=by
  have:=(List.getElem?_eq_some_iff.1 hy).1
  simp at this;omega
 subst h0
 obtain rfl:x=y:=by simpa using hy
 exact⟨_,rfl,hv.keep (fun k h _=>⟨h.1,fun e=>h.2 (by simp[Value.ownBlock]at e;exact e.symm)⟩) (Nat.le_refl _) (fun _ _ _=>rfl)⟩
theorem below_new(W:World)(o:Obj):Below W.heap.size W (W.alloc o):=(Below.refl _ _).alloc (Nat.le_refl _) o
theorem val_str{W:World}{S:Nat→Prop}{s:ByteArray}(hs:s.size≤9223372036854775807):VAt W S (.agg #[.int .i64 2,.int .i64 0,.string s,.bool false,.slice none 0 0]) (.mk 2 0 s false []) :=
 .nil 2 0 s false (in_small 2 (by omega) (by omega)) (in_small 0 (by omega) (by omega)) hs
set_option maxRecDepth 100000 in
set_option maxHeartbeats 4000000 in
theorem text_any(l:List (ByteArray×V×Bool))(v:Value)(w:World)(h:InCh w v l)(hlen:l.length≤300)(hf:∀x∈l,x.1.size≤70000∧fewT x.2.1)(hz:sz (trA (l.map chV)) 0≤140737488355328) :
  Calls Tryz.prog 47 #[v] w (PrintQ (trA (l.map chV)) w):=by
 have HPR:=Lib.hid (fun (v:Value) (W:World) (hv:Holds W v (.mk 4 0 { data:=#[] } false (l.map chD)))=>rprintT_any (.mk 4 0 { data:=#[] } false (l.map chD)) v W (txD_few l hlen hf) (by rw[txD_of];exact hz) hv)
 rw[txD_of]at HPR
 have HC:=Lib.hid h
 obtain⟨p,cap,rfl,hcap,_⟩:=id h
 obtain⟨n,hn⟩:∃n,l.length=n:=⟨_,rfl⟩
 have HN:=Lib.hid hn
 have HF:=Lib.hid hf
 rw[hn]at hlen hcap HC ⊢
 obtain⟨TA,hTA⟩:∃TA,trA (l.map chV)=TA:=⟨_,rfl⟩
 rw[hTA]at HPR ⊢
 have HB0:=Lib.hid (Below.refl w.heap.size w |>.alloc (Nat.le_refl _) (.cells #[.int .i64 4,.int .i64 0,.string { data:=#[] },.bool false,.slice none 0 0] 59))
 have HK0:=Lib.hid (blk_new w #[.int .i64 4,.int .i64 0,.string { data:=#[] },.bool false,.slice none 0 0])
 obtain⟨t,ht⟩:∃t,prt TA=t:=⟨_,rfl⟩
 obtain⟨z,hz2⟩:∃z,er TA 0=z:=⟨_,rfl⟩
 unfold PrintQ at HPR ⊢
 simp only[ht,hz2]at HPR ⊢
 clear hn h hf hz hTA ht hz2
 go_enter Tryz.func47,Tryz.ntmps47
 go_wp2
 go_loopw [5] (fun i wr=>∃(j:Nat),j≤n∧i=.int .i64 (j:Int)∧∃rv,Hid (Blk wr w.heap.size #[.int .i64 4,.int .i64 0,.string { data:=#[] },.bool false,rv])∧Hid (RowV wr (w.heap.size+1) (fun b=>b≠w.heap.size) rv ((l.take j).map chD))∧Hid (Below w.heap.size w wr)) (fun i _=>n-(intOf i).toNat)
 case atStart=>exact⟨0,Nat.zero_le _,rfl,_,HK0,Lib.hid (RowV.nil _ _ _),HB0⟩
 case round =>
  obtain⟨j,hj,rfl,rv,HK,HR,HB⟩:=hrel
  by_cases hlt:j<n
  ·have hlti:(j:Int)<(n:Int):=by omega
   obtain⟨x,hx⟩:∃x,l[j]?=some x:=⟨l[j]'(by have:=HN.out;omega),List.getElem?_eq_getElem _⟩
   obtain⟨p',cap',e',_,hrow⟩:=id HC.out
   have HFX:=Lib.hid (HF.out x (List.mem_of_getElem? hx))
   simp only[Value.slice.injEq]at e'
   obtain⟨rfl,hnn,rfl⟩:=e'
   clear hnn
   obtain⟨bb,oo,c0,c1,c2,c3,c4,rfl,hbb0,x0,x1,x2,x3,x4,x5,x6,x7⟩:=hrow j x hx
   have HX:Hid ((l.take (j+1)).map chD=(l.take j).map chD++[chD x]):=Lib.hid (by rw[take_get hx,List.map_append,List.map_cons,List.map_nil])
   have HLN:Hid (((l.take j).map chD).length≤300):=Lib.hid (by rw[List.length_map,List.length_take];omega)
   have HXA:Hid (VAt w (fun b=>b<w.heap.size) (.agg #[c0,c1,c2,c3,c4]) x.2.1):=Lib.hid (VAt.lower x7)
   have HZ0:=HB.out.size
   have hbb:bb<wr.heap.size:=Nat.lt_of_lt_of_le hbb0 HZ0
   have hkl:=HK.out.lt
   have HCW:Hid (∀W,Below w.heap.size w W→W.cell? ⟨bb,oo+j*7,none⟩=some (.string x.1)∧W.cell? ⟨bb,oo+j*7+1,none⟩=some c0∧W.cell? ⟨bb,oo+j*7+2,none⟩=some c1∧W.cell? ⟨bb,oo+j*7+3,none⟩=some c2∧W.cell? ⟨bb,oo+j*7+4,none⟩=some c3∧W.cell? ⟨bb,oo+j*7+5,none⟩=some c4∧W.cell? ⟨bb,oo+j*7+6,none⟩=some (.bool x.2.2)):=Lib.hid fun W hW=>⟨(hW.cell hbb0).trans x0,(hW.cell hbb0).trans x1,(hW.cell hbb0).trans x2,(hW.cell hbb0).trans x3,(hW.cell hbb0).trans x4,(hW.cell hbb0).trans x5,(hW.cell hbb0).trans x6⟩
   clear hrow hx x0 x1 x2 x3 x4 x5 x6 x7
   obtain⟨k,a,g⟩:=x
   simp only at HCW HXA HFX
   obtain⟨d0,_,_,_,_,_,d6⟩:=HCW.out wr HB.out
   have hk4:=HK.out.cell 4
   simp only[List.getElem?_toArray,List.getElem?_cons_zero,List.getElem?_cons_succ]at hk4
   have HE2:Hid (Below wr.heap.size wr ((wr.alloc (.cells #[.int .i64 2,.int .i64 0,.string k,.bool false,.slice none 0 0] 59)).alloc (.cells #[.int .i64 4,.int .i64 0,.string { data:=#[] },.bool false,.slice (some ⟨wr.heap.size,0,none⟩) 1 1] 59))):=Lib.hid (((Below.refl _ wr).alloc (Nat.le_refl _) _).alloc (by simp) _)
   have HR1:Hid (RowV ((wr.alloc (.cells #[.int .i64 2,.int .i64 0,.string k,.bool false,.slice none 0 0] 59)).alloc (.cells #[.int .i64 4,.int .i64 0,.string { data:=#[] },.bool false,.slice (some ⟨wr.heap.size,0,none⟩) 1 1] 59)) (w.heap.size+1) (fun b=>b≠w.heap.size) rv ((l.take j).map chD)):=Lib.hid (HR.out.below HE2.out)
   have HRL:Hid (∀b,rv.ownBlock=some b→b<wr.heap.size):=Lib.hid fun b hb=>(HR.out.lt b hb).2
   have HA1:Hid (((wr.alloc (.cells #[.int .i64 2,.int .i64 0,.string k,.bool false,.slice none 0 0] 59)).alloc (.cells #[.int .i64 4,.int .i64 0,.string { data:=#[] },.bool false,.slice (some ⟨wr.heap.size,0,none⟩) 1 1] 59)).heap[wr.heap.size]?=some (.cells #[.int .i64 2,.int .i64 0,.string k,.bool false,.slice none 0 0] 59 (0,0))):=Lib.hid (((below_new (wr.alloc (.cells #[.int .i64 2,.int .i64 0,.string k,.bool false,.slice none 0 0] 59)) (.cells #[.int .i64 4,.int .i64 0,.string { data:=#[] },.bool false,.slice (some ⟨wr.heap.size,0,none⟩) 1 1] 59)).block wr.heap.size (by simp)).trans (heap_alloc_new wr _))
   have HA2:Hid (Blk ((wr.alloc (.cells #[.int .i64 2,.int .i64 0,.string k,.bool false,.slice none 0 0] 59)).alloc (.cells #[.int .i64 4,.int .i64 0,.string { data:=#[] },.bool false,.slice (some ⟨wr.heap.size,0,none⟩) 1 1] 59)) (wr.heap.size+1) #[.int .i64 4,.int .i64 0,.string { data:=#[] },.bool false,.slice (some ⟨wr.heap.size,0,none⟩) 1 1]):=Lib.hid (by have:=blk_new (wr.alloc (.cells #[.int .i64 2,.int .i64 0,.string k,.bool false,.slice none 0 0] 59)) #[.int .i64 4,.int .i64 0,.string { data:=#[] },.bool false,.slice (some ⟨wr.heap.size,0,none⟩) 1 1];rwa [World.size_alloc]at this)
   have HKE:Hid (VAt ((wr.alloc (.cells #[.int .i64 2,.int .i64 0,.string k,.bool false,.slice none 0 0] 59)).alloc (.cells #[.int .i64 4,.int .i64 0,.string { data:=#[] },.bool false,.slice (some ⟨wr.heap.size,0,none⟩) 1 1] 59)) (fun _=>True) (.agg #[.int .i64 2,.int .i64 0,.string k,.bool false,.slice none 0 0]) (.mk 2 0 k false [])):=Lib.hid (val_str (by have:=HFX.out.1;omega))
   have HZ1:=Lib.hid (show w.heap.size+1≤((wr.alloc (.cells #[.int .i64 2,.int .i64 0,.string k,.bool false,.slice none 0 0] 59)).alloc (.cells #[.int .i64 4,.int .i64 0,.string { data:=#[] },.bool false,.slice (some ⟨wr.heap.size,0,none⟩) 1 1] 59)).heap.size by simp;omega)
   have HSZ:=Lib.hid (show ((wr.alloc (.cells #[.int .i64 2,.int .i64 0,.string k,.bool false,.slice none 0 0] 59)).alloc (.cells #[.int .i64 4,.int .i64 0,.string { data:=#[] },.bool false,.slice (some ⟨wr.heap.size,0,none⟩) 1 1] 59)).heap.size=wr.heap.size+1+1 by simp)
   have HK2:=Lib.hid (HK.out.past HE2.out)
   have HB2:=Lib.hid (HB.out.trans (HE2.out.mono HZ0))
   cases g
   ·skip
    go_wp2_with fail
    refine wp_region_fine_drop 8 (TL [eqv (.pointer (some ⟨wr.heap.size+1,4,none⟩)),eqv (.slice (some ⟨wr.heap.size,0,none⟩) 1 1),eqv (.slice (some ⟨bb,oo,none⟩) n cap),eqv (.int .i64 (j:Int)),eqv (.pointer (some ⟨bb,oo+j*7,none⟩)),eqv (.pointer (some ⟨bb,oo+j*7+1,none⟩)),eqv (.agg #[c0,c1,c2,c3,c4]),Sl5 (c0,c1,c2,c3,c4)]) (by kernel_rfl) (by kernel_rfl) (by kernel_rfl) (by kernel_rfl) (TL_last (List.forall_mem_cons.2 ⟨eqv_last _,List.forall_mem_cons.2 ⟨eqv_last _,List.forall_mem_cons.2 ⟨eqv_last _,List.forall_mem_cons.2 ⟨eqv_last _,List.forall_mem_cons.2 ⟨eqv_last _,List.forall_mem_cons.2 ⟨eqv_last _,List.forall_mem_cons.2 ⟨eqv_last _,List.forall_mem_cons.2 ⟨Sl5_last _,fun _ h=>(List.not_mem_nil h).elim⟩⟩⟩⟩⟩⟩⟩⟩)) (TL_no_guard (by kernel_rfl)) ?_ ?_
    ·intro ix o' ho a' W' hB hdep hfix
     simp only[List.take_succ_cons,List.take_zero]at ho hdep hfix
     have HBW':=HB2.out.trans (hB.mono HB2.out.size)
     obtain⟨_,x1,x2,x3,x4,x5,_⟩:=HCW.out W' HBW'
     match ix,ho with
     |0,ho =>
      obtain rfl:=Option.some.inj ho
      exact lays_eq _ rfl (exec_fdT (hfix 6 (by decide +kernel)) (fa59 (wr.heap.size+1) 0 W'))
     |1,ho =>
      obtain rfl:=Option.some.inj ho
      have e1:a'.tmps.getD 28 undef=.pointer (some ⟨wr.heap.size+1,4,none⟩):=hdep 0 _ 28 rfl rfl (by decide +kernel)
      have hq:=Blk.cell ((hB.block (wr.heap.size+1) HA2.out.lt).trans HA2.out:Blk W' (wr.heap.size+1) _) 4
      simp only[List.getElem?_toArray,List.getElem?_cons_zero,List.getElem?_cons_succ]at hq
      exact lays_eq _ rfl (exec_ldT e1 (ld57 hq))
     |2,ho =>
      obtain rfl:=Option.some.inj ho
      exact lays_eq _ rfl (exec_move (hfix 0 (by decide +kernel)))
     |3,ho =>
      obtain rfl:=Option.some.inj ho
      exact lays_eq _ rfl (exec_move (hfix 5 (by decide +kernel)))
     |4,ho =>
      obtain rfl:=Option.some.inj ho
      have e1:a'.tmps.getD 30 undef=.slice (some ⟨bb,oo,none⟩) n cap:=hdep 2 _ 30 rfl rfl (by decide +kernel)
      have e2:a'.tmps.getD 31 undef=.int .i64 (j:Int):=hdep 3 _ 31 rfl rfl (by decide +kernel)
      exact lays_eq _ rfl (exec_ix38 e1 e2 hlt)
     |5,ho =>
      obtain rfl:=Option.some.inj ho
      have e1:a'.tmps.getD 32 undef=.pointer (some ⟨bb,oo+j*7,none⟩):=hdep 4 _ 32 rfl rfl (by decide +kernel)
      exact lays_eq _ rfl (exec_fdT e1 (fa61 bb (oo+j*7) W').2.1)
     |6,ho =>
      obtain rfl:=Option.some.inj ho
      have e1:a'.tmps.getD 33 undef=.pointer (some ⟨bb,oo+j*7+1,none⟩):=hdep 5 _ 33 rfl rfl (by decide +kernel)
      exact lays_eq _ rfl (exec_ldT e1 (ld59o x1 x2 x3 x4 x5))
     |7,ho =>
      obtain rfl:=Option.some.inj ho
      have e1:a'.tmps.getD 34 undef=.agg #[c0,c1,c2,c3,c4]:=hdep 6 _ 34 rfl rfl (by decide +kernel)
      exact lays_value (v:=.slice (some ⟨W'.heap.size,0,none⟩) 1 1) (W':=W'.alloc (.cells #[c0,c1,c2,c3,c4] 59)) (exec_bs57 e1) (below_new W' _) ⟨_,rfl,heap_alloc_new W' _⟩
     |ix+8,ho=>simp at ho
    ·intro a' W' hB hd hsz hfix hTT
     simp only[List.take_succ_cons,List.take_zero,List.drop_succ_cons,List.drop_zero]at hfix hTT ⊢
     have f0:a'.tmps.getD 0 undef=.slice (some ⟨bb,oo,none⟩) n cap:=hfix 0 (by decide +kernel)
     have f1:a'.tmps.getD 1 undef=undef:=hfix 1 (by decide +kernel)
     have f2:a'.tmps.getD 2 undef=.string { data:=#[] }:=hfix 2 (by decide +kernel)
     have f3:a'.tmps.getD 3 undef=.int .i64 0:=hfix 3 (by decide +kernel)
     have f4:a'.tmps.getD 4 undef=.pointer (some ⟨w.heap.size,0,none⟩):=hfix 4 (by decide +kernel)
     have f5:a'.tmps.getD 5 undef=.int .i64 (j:Int):=hfix 5 (by decide +kernel)
     have f6:a'.tmps.getD 6 undef=.pointer (some ⟨wr.heap.size+1,0,none⟩):=hfix 6 (by decide +kernel)
     have f7:a'.tmps.getD 7 undef=.agg #[.int .i64 4,.int .i64 0,.string { data:=#[] },.bool false,.slice none 0 0]:=hfix 7 (by decide +kernel)
     have f44:a'.tmps.getD 44 undef=undef:=hfix 44 (by decide +kernel)
     have f45:a'.tmps.getD 45 undef=undef:=hfix 45 (by decide +kernel)
     have f46:a'.tmps.getD 46 undef=undef:=hfix 46 (by decide +kernel)
     have f47:a'.tmps.getD 47 undef=undef:=hfix 47 (by decide +kernel)
     have f29:a'.tmps.getD 29 undef=.slice (some ⟨wr.heap.size,0,none⟩) 1 1:=hTT 1 _ 29 rfl rfl
     have gs:Sl5 (c0,c1,c2,c3,c4) (a'.tmps.getD 35 undef) W':=hTT 7 _ 35 rfl rfl
     rw[frame_lit a' 48 hsz hd]
     clear hfix hTT hsz hd
     simp only[List.range,List.range.loop,List.map]
     generalize a'.tmps=tm at *
     simp only[f0,f1,f2,f3,f4,f5,f6,f7,f44,f45,f46,f47,f29]
     clear f0 f1 f2 f3 f4 f5 f6 f7 f44 f45 f46 f47 f29
     obtain⟨b9,e9,k9⟩:=gs
     simp only[e9]
     have hBW:=HE2.out.trans (hB.mono HE2.out.size)
     have HBF:=Lib.hid (HB2.out.trans (hB.mono HB2.out.size))
     have HA1W:=Lib.hid ((hB.block wr.heap.size (Array.getElem?_eq_some_iff.1 HA1.out).1).trans HA1.out)
     have HA2W:Hid (Blk W' (wr.heap.size+1) #[.int .i64 4,.int .i64 0,.string { data:=#[] },.bool false,.slice (some ⟨wr.heap.size,0,none⟩) 1 1]):=Lib.hid ((hB.block _ HA2.out.lt).trans HA2.out)
     have HKW:Hid (Blk W' w.heap.size #[.int .i64 4,.int .i64 0,.string { data:=#[] },.bool false,rv]):=Lib.hid ((hB.block _ HK2.out.lt).trans HK2.out)
     have HRW:=Lib.hid (HR1.out.below hB)
     have HI:Hid (RowV W' wr.heap.size (fun b=>(b≠w.heap.size∧rv.ownBlock≠some b)∧b≠wr.heap.size+1) (.slice (some ⟨wr.heap.size,0,none⟩) 1 1) [.mk 2 0 k false []]):=Lib.hid (row_one (Nat.le_refl _) HA1W.out (val_str (by have:=HFX.out.1;omega)))
     have HAV:Hid (VAt W' (fun b=>((b≠w.heap.size∧rv.ownBlock≠some b)∧b≠wr.heap.size+1)∧(Value.slice (some ⟨wr.heap.size,0,none⟩) 1 1).ownBlock≠some b) (.agg #[c0,c1,c2,c3,c4]) a):=Lib.hid (HXA.out.keep (fun b hb _=>⟨⟨⟨by omega,fun e=>by have:=(HR.out.lt b e).1;omega⟩,by omega⟩,fun e=>by simp only[Value.ownBlock,Option.some.injEq]at e;omega⟩) HBF.out.size (fun b hb _=>HBF.out.block b hb))
     have HZW:=Lib.hid (show wr.heap.size≤W'.heap.size from hBW.size)
     clear hB e9
     go_wp2_with (first | (at_builtin;refine wpList_pushVAt rfl (.tmp 29) (.tmp 35) rfl wr.heap.size (fun b=>(b≠w.heap.size∧rv.ownBlock≠some b)∧b≠wr.heap.size+1) (.slice (some ⟨wr.heap.size,0,none⟩) 1 1) [.mk 2 0 k false []] a c0 c1 c2 c3 c4 b9 k9 rfl HI.out HAV.out rfl (by simp) HZW.out ?_) | fail)
     intro v6 w6 hR6 hB6 hG6
     replace hG6:W'.grownBy w6 (some wr.heap.size):=hG6
     have HA2_6:Hid (Blk w6 (wr.heap.size+1) #[.int .i64 4,.int .i64 0,.string { data:=#[] },.bool false,.slice (some ⟨wr.heap.size,0,none⟩) 1 1]):=Lib.hid (HA2W.out.grown hG6 (by omega))
     have HK6:Hid (Blk w6 w.heap.size #[.int .i64 4,.int .i64 0,.string { data:=#[] },.bool false,rv]):=Lib.hid (HKW.out.grown hG6 (by omega))
     have HB6:=Lib.hid (HBF.out.trans (hB6.mono HZ0))
     have HW6:=Lib.hid (hBW.trans (hB6.mono (Nat.le_refl _)))
     have HR6:Hid (RowV w6 wr.heap.size (fun b=>(b≠w.heap.size∧rv.ownBlock≠some b)∧b≠wr.heap.size+1) v6 [.mk 2 0 k false [],a]):=Lib.hid hR6
     have HNB:=Lib.hid (HR6.out.not_box (by simp) HA2_6.out)
     obtain⟨rp6,rc6,hrs⟩:=HR6.out.shape
     replace hrs:v6=.slice rp6 2 rc6:=hrs
     subst hrs
     clear hR6 hB6 hG6 hBW k9
     go_wp2_with (first | (with_reducible refine wpList_set4 (wr.heap.size+1) _ _ _ _ _ _ _ _ rfl rfl HA2_6.out ?_) | fail)
     intro w7 hK7 hG7
     have HR7:Hid (RowV w7 wr.heap.size (fun b=>(b≠w.heap.size∧rv.ownBlock≠some b)∧b≠wr.heap.size+1) (.slice rp6 2 rc6) [.mk 2 0 k false [],a]):=Lib.hid (HR6.out.past hG7 HNB.out (fun h=>h.2 rfl))
     skip
     have HE6:Hid (Below wr.heap.size wr w7):=Lib.hid (below_blk HW6.out hG7 HW6.out.size (Nat.le_succ _))
     have HRX:Hid (RowV w7 (w.heap.size+1) (fun b=>b≠w.heap.size) rv ((l.take j).map chD)):=Lib.hid (HR.out.below HE6.out)
     have HK7:Hid (Blk w7 w.heap.size #[.int .i64 4,.int .i64 0,.string { data:=#[] },.bool false,rv]):=Lib.hid (HK.out.past HE6.out)
     have HB7:=Lib.hid (HB.out.trans (HE6.out.mono HZ0))
     have HV7:Hid (VAt w7 (fun b=>b≠w.heap.size∧rv.ownBlock≠some b) (.agg #[.int .i64 4,.int .i64 0,.string { data:=#[] },.bool false,.slice rp6 2 rc6]) (chD (k,a,false))):=Lib.hid (HR7.out.val (fun _ h=>h.1) (fun b hb=>by
      have h1:=(HR7.out.lt b hb).1
      exact⟨by omega,fun e=>by have:=HRL.out _ e;omega⟩))
     have HZ7:=Lib.hid (show w.heap.size+1≤w7.heap.size by have:=HE6.out.size;omega)
     have q0:=hK7.cell 0
     have q1:=hK7.cell 1
     have q2:=hK7.cell 2
     have q3:=hK7.cell 3
     have q4:=hK7.cell 4
     have m4:=HK7.out.cell 4
     simp only[List.getElem?_toArray,List.getElem?_cons_zero,List.getElem?_cons_succ]at q0 q1 q2 q3 q4 m4
     clear hK7 hG7 HR1 HA1 HA2 HKE HZ1 HSZ HK2 HB2 HA1W HA2W HKW HRW HI HAV HZW HA2_6 HK6 HB6 HW6 HR6 HNB HR7 HE2
     go_wp2_with (first | (at_builtin;refine wpList_pushV rfl (.tmp 39) (.tmp 41) rfl w7 (w.heap.size+1) (fun b=>b≠w.heap.size) rv ((l.take j).map chD) (chD (k,a,false)) (.int .i64 4) (.int .i64 0) (.string { data:=#[] }) (.bool false) (.slice rp6 2 rc6) rfl rfl HRX.out HV7.out rfl (by have:=HLN.out;omega) HZ7.out ?_) | fail)
     clear q0 q1 q2 q3 q4 m4
     intro v5 w5 hR5 hB5
     have HB5:=Lib.hid (HB7.out.trans (hB5.mono (Nat.le_succ _)))
     have HK5:Hid (Blk w5 w.heap.size #[.int .i64 4,.int .i64 0,.string { data:=#[] },.bool false,rv]):=Lib.hid ((hB5.block w.heap.size (Nat.lt_succ_self _)).trans HK7.out)
     skip
     have HR5:Hid (RowV w5 (w.heap.size+1) (fun b=>b≠w.heap.size) v5 ((l.take (j+1)).map chD)):=Lib.hid (by rw[HX.out];simpa using hR5)
     have HRS:Hid (RowV (w5.setCell ⟨w.heap.size,4,none⟩ v5) (w.heap.size+1) (fun b=>b≠w.heap.size) v5 ((l.take (j+1)).map chD)):=Lib.hid (HR5.out.past ⟨rfl,rfl,rfl,by simp,fun k _ hne=>heap_setCell_other w5 ⟨w.heap.size,4,none⟩ k _ (fun e=>hne (by rw[e]))⟩ (fun e=>by have:=(HR5.out.lt _ e).1;omega) (fun h=>h rfl))
     have HKS:=Lib.hid (HK5.out.set4 v5)
     have HBS:=Lib.hid (HB5.out.setCell (p:=⟨w.heap.size,4,none⟩) (Nat.le_refl _) v5)
     obtain⟨rp5,rc5,hrs⟩:=HR5.out.shape
     obtain⟨m5,hm5⟩:∃m,((l.take (j+1)).map chD).length=m:=⟨_,rfl⟩
     rw[hm5]at hrs
     subst hrs
     have k4:=HK5.out.cell 4
     have kf:=HK5.out.free 4
     simp only[List.getElem?_toArray,List.getElem?_cons_zero,List.getElem?_cons_succ]at k4
     clear hm5 hR5 hB5
     go_wp2
     go_roundw
     case rel=>exact⟨j+1,by omega,by go_num,_,HKS,HRS,HBS⟩
     case measure=>simp[intOf];omega
   ·have HV1:Hid (VAt ((wr.alloc (.cells #[.int .i64 2,.int .i64 0,.string k,.bool false,.slice none 0 0] 59)).alloc (.cells #[.int .i64 4,.int .i64 0,.string { data:=#[] },.bool false,.slice (some ⟨wr.heap.size,0,none⟩) 1 1] 59)) (fun b=>b≠w.heap.size∧rv.ownBlock≠some b) (.agg #[.int .i64 4,.int .i64 0,.string { data:=#[] },.bool false,.slice (some ⟨wr.heap.size,0,none⟩) 1 1]) (chD (k,a,true))):=Lib.hid (by
     have h3:=row_one (B:=0) (N:=(fun b=>b≠w.heap.size∧rv.ownBlock≠some b)) (x:=.mk 2 0 k false []) (Nat.zero_le _) HA1.out (val_str (by have:=HFX.out.1;omega))
     exact h3.val (fun _ h=>h) (fun b hb=>by
      simp only[Value.ownBlock,Option.some.injEq]at hb
      subst hb
      exact⟨by omega,fun e=>by have:=HRL.out _ e;omega⟩))
    go_wp2_with (first | (at_builtin;refine wpList_pushV rfl (.tmp 39) (.tmp 41) rfl ((wr.alloc (.cells #[.int .i64 2,.int .i64 0,.string k,.bool false,.slice none 0 0] 59)).alloc (.cells #[.int .i64 4,.int .i64 0,.string { data:=#[] },.bool false,.slice (some ⟨wr.heap.size,0,none⟩) 1 1] 59)) (w.heap.size+1) (fun b=>b≠w.heap.size) rv ((l.take j).map chD) (chD (k,a,true)) (.int .i64 4) (.int .i64 0) (.string { data:=#[] }) (.bool false) (.slice (some ⟨wr.heap.size,0,none⟩) 1 1) rfl rfl HR1.out HV1.out (congrArg (fun k=>Value.slice (some ⟨k,0,none⟩) 1 1) HSZ.out.symm) (by have:=HLN.out;omega) HZ1.out ?_) | fail)
    intro v5 w5 hR5 hB5
    have HB5:=Lib.hid (HB2.out.trans (hB5.mono (Nat.le_succ _)))
    have HK5:Hid (Blk w5 w.heap.size #[.int .i64 4,.int .i64 0,.string { data:=#[] },.bool false,rv]):=Lib.hid ((hB5.block w.heap.size (Nat.lt_succ_self _)).trans HK2.out)
    skip
    have HR5:Hid (RowV w5 (w.heap.size+1) (fun b=>b≠w.heap.size) v5 ((l.take (j+1)).map chD)):=Lib.hid (by rw[HX.out];simpa using hR5)
    have HRS:Hid (RowV (w5.setCell ⟨w.heap.size,4,none⟩ v5) (w.heap.size+1) (fun b=>b≠w.heap.size) v5 ((l.take (j+1)).map chD)):=Lib.hid (HR5.out.past ⟨rfl,rfl,rfl,by simp,fun k _ hne=>heap_setCell_other w5 ⟨w.heap.size,4,none⟩ k _ (fun e=>hne (by rw[e]))⟩ (fun e=>by have:=(HR5.out.lt _ e).1;omega) (fun h=>h rfl))
    have HKS:=Lib.hid (HK5.out.set4 v5)
    have HBS:=Lib.hid (HB5.out.setCell (p:=⟨w.heap.size,4,none⟩) (Nat.le_refl _) v5)
    obtain⟨rp5,rc5,hrs⟩:=HR5.out.shape
    obtain⟨m5,hm5⟩:∃m,((l.take (j+1)).map chD).length=m:=⟨_,rfl⟩
    rw[hm5]at hrs
    subst hrs
    have k4:=HK5.out.cell 4
    have kf:=HK5.out.free 4
    simp only[List.getElem?_toArray,List.getElem?_cons_zero,List.getElem?_cons_succ]at k4
    clear hm5 hR5 hB5
    go_wp2
    go_roundw
    case rel=>exact⟨j+1,by omega,by go_num,_,HKS,HRS,HBS⟩
    case measure=>simp[intOf];omega
  ·obtain rfl:j=n:=by omega
   have hk:=HK.out
   have HVV:Hid (Holds wr (.agg #[.int .i64 4,.int .i64 0,.string { data:=#[] },.bool false,rv]) (.mk 4 0 { data:=#[] } false (l.map chD))):=Lib.hid (by
    have h:=HR.out
    rw[List.take_of_length_le (by rw[HN.out];exact Nat.le_refl _)]at h
    exact(h.val (M:=fun _=>True) (fun _ _=>trivial) (fun _ _=>trivial)))
   have k0:=hk.cell 0
   have k1:=hk.cell 1
   have k2:=hk.cell 2
   have k3:=hk.cell 3
   have k4:=hk.cell 4
   simp only[List.getElem?_toArray,List.getElem?_cons_zero,List.getElem?_cons_succ]at k0 k1 k2 k3 k4
   have HP:=Lib.hid (HPR.out _ wr HVV.out)
   clear hk
   go_wp2_with fail
   refine HP.out.mono ?_
   rintro e w3 ⟨rfl,hb3⟩
   have HB3:=Lib.hid (HB.out.trans (hb3.mono HB.out.size))
   clear hb3 k0 k1 k2 k3 k4
   go_wp2
   go_ret2
   exact⟨rfl,HB3.out⟩
end Go.Proofs.YtlogjpmdfimgdaaGreatDoor
namespace Go.Proofs.YtlogjpmdfimgdaaGreatDoor
open Go Go.RowKit Go.Own Go.Own.Fr Go.Maps Go.WideMaps
theorem info61:(Tryz.prog.info? 61).map (fun i=>(i.zero,i.size,i.bytes))=some (some (.agg #[.string { data:=#[] },.int .i64 0,.int .i64 0,.string { data:=#[] },.bool false,.slice none 0 0,.bool false]),7,88):=by kernel_rfl
def chQ(l:List (ByteArray×Cz)):List Value:=l.flatMap fun x=>[.string x.1,x.2.1,x.2.2.1,x.2.2.2.1,x.2.2.2.2.1,x.2.2.2.2.2,.bool false]
theorem chQ_get:∀(l:List (ByteArray×Cz)) (j:Nat) (x:ByteArray×Cz),l[j]?=some x→(chQ l)[j*7]?=some (.string x.1)∧(chQ l)[j*7+1]?=some x.2.1∧(chQ l)[j*7+2]?=some x.2.2.1∧(chQ l)[j*7+3]?=some x.2.2.2.1∧(chQ l)[j*7+4]?=some x.2.2.2.2.1∧(chQ l)[j*7+5]?=some x.2.2.2.2.2∧(chQ l)[j*7+6]?=some (.bool false)
 | [],j,x,h=>by simp at h
 |y :: r,0,x,h=>by
  simp at h
  subst h
  exact⟨rfl,rfl,rfl,rfl,rfl,rfl,rfl⟩
 |y :: r,j+1,x,h=>by
  have h1:=chQ_get r j x (by simpa using h)
  have e:chQ (y :: r)=.string y.1 :: y.2.1 :: y.2.2.1 :: y.2.2.2.1 :: y.2.2.2.2.1 :: y.2.2.2.2.2 :: .bool false :: chQ r:=rfl
  rw[e,show (j+1)*7=j*7+1+1+1+1+1+1+1 by omega,show j*7+1+1+1+1+1+1+1+1=(j*7+1)+1+1+1+1+1+1+1 by omega,show j*7+1+1+1+1+1+1+1+2=(j*7+2)+1+1+1+1+1+1+1 by omega,show j*7+1+1+1+1+1+1+1+3=(j*7+3)+1+1+1+1+1+1+1 by omega,show j*7+1+1+1+1+1+1+1+4=(j*7+4)+1+1+1+1+1+1+1 by omega,show j*7+1+1+1+1+1+1+1+5=(j*7+5)+1+1+1+1+1+1+1 by omega,show j*7+1+1+1+1+1+1+1+6=(j*7+6)+1+1+1+1+1+1+1 by omega]
  simp only[List.getElem?_cons_succ]
  exact h1
def OwnQ(w:World)(B T:Nat)(v:Value)(D:List Pr):Prop :=
 ∃l:List (ByteArray×Cz),l.length=D.length∧w.ownsRow B 61 7 v l.length (chQ l)∧∀(j:Nat) (x:ByteArray×Cz) (y:Pr),l[j]?=some x→D[j]?=some y→x.1=y.1∧y.1.size≤9223372036854775807∧VAt w (fun b=>b<T) x.2.agg y.2
theorem OwnQ.nil(w:World)(B T:Nat):OwnQ w B T (.slice none 0 0) []:=⟨[],rfl,⟨rfl,Or.inl ⟨rfl,rfl⟩⟩,fun j x y h=>by simp at h⟩
def Sl7(k:ByteArray)(c:Cz)(v:Value)(W:World):Prop:=∃b,v=.slice (some ⟨b,0,none⟩) 1 1∧W.heap[b]?=some (.cells #[.string k,c.1,c.2.1,c.2.2.1,c.2.2.2.1,c.2.2.2.2,.bool false] 61 (0,0))
theorem Sl7_last(k:ByteArray)(c:Cz):Lasts (Sl7 k c):=by
 rintro v W W' ⟨b,h1,h2⟩ hB
 exact⟨b,h1,(hB.block b (Array.getElem?_eq_some_iff.1 h2).1).trans h2⟩
section
variable{ρ:Operand→Value}{W:World}{dst:Option Tmp}{ty:TypeId}{pos:String}{after:Array Edge}{guard:Option (Nat×Bool)}{x y:Operand}
theorem exec_bd61{k:ByteArray}{c0 c1 c2 c3 c4:Value}(h1:ρ x=.string k)(h2:ρ y=.agg #[c0,c1,c2,c3,c4]) :
  (execOp ρ { dst,op:=.build 61 #[(0,x),(1,y)],type:=ty,pos,after,guard }).run Tryz.prog W=.ok (.value (.agg #[.string k,c0,c1,c2,c3,c4,.bool false])) W:=by
 simp[execOp,h1,h2,go_sem]
theorem exec_bs38{k:ByteArray}{c0 c1 c2 c3 c4:Value}(h1:ρ x=.agg #[.string k,c0,c1,c2,c3,c4,.bool false]) :
  (execOp ρ { dst,op:=.buildSlice 38 1 #[(0,x)],type:=ty,pos,after,guard }).run Tryz.prog W=.ok (.value (.slice (some ⟨W.heap.size,0,none⟩) 1 1)) (W.alloc (.cells #[.string k,c0,c1,c2,c3,c4,.bool false] 61)):=by
 have hb:(Instr.buildSlice 38 1 #[(0,.agg #[.string k,c0,c1,c2,c3,c4,.bool false])]).run Tryz.prog W=.ok (.slice (some ⟨W.heap.size,0,none⟩) 1 1) (W.alloc (.cells #[.string k,c0,c1,c2,c3,c4,.bool false] 61)):=by kernel_rfl
 unfold execOp
 simp only[List.map_toArray,List.map_cons,List.map_nil,h1,Sem.run_bind,hb,Result.andThen_ok]
 rfl
theorem exec_ix32{b o n c k:Nat}(h1:ρ x=.slice (some ⟨b,o,none⟩) n c)(h2:ρ y=.int .i64 (k:Int))(hk:k<n):(execOp ρ { dst,op:=.indexAddr 32 x y,type:=ty,pos,after,guard }).run Tryz.prog W=.ok (.value (.pointer (some ⟨b,o+k*6,none⟩))) W:=by
 have hki:(k:Int)<(n:Int):=by omega
 have hk0:(0:Int)≤(k:Int):=by omega
 simp[execOp,h1,h2,go_sem,hki,hk0]
theorem fa82(b o:Nat)(W:World):(Instr.fieldAt 82 (.pointer (some ⟨b,o,none⟩)) 0).run Tryz.prog W=.ok (.pointer (some ⟨b,o,none⟩)) W∧(Instr.fieldAt 82 (.pointer (some ⟨b,o,none⟩)) 1).run Tryz.prog W=.ok (.pointer (some ⟨b,o+1,none⟩)) W:=by
 refine⟨?_,?_⟩ <;> simp[go_sem]
end
theorem wpList_chAt{ops:Array Oper}{rest:List Oper}{o:Oper}{a:Act}{Q:Exit→Act→World→Prop}{w:World}(hgd:o.guard=none)(s x:Operand)
  (ho:o.op=.call { callee:=.builtin .append,args:=#[s,x],argTypes:=#[38,38] }) (B T:Nat) (hT:T≤B) (v:Value) (D:List Pr) (c:Cz) (y:Pr) (b9:Nat) (hb9:w.heap[b9]?=some (.cells #[.string y.1,c.1,c.2.1,c.2.2.1,c.2.2.2.1,c.2.2.2.2,.bool false] 61 (0,0))) (hs:a.eval s=v) (hrow:OwnQ w B T v D)
  (hy:y.1.size≤9223372036854775807) (hv:VAt w (fun b=>b<T) c.agg y.2)
  (hx:a.eval x=.slice (some ⟨b9,0,none⟩) 1 1) (hlen:D.length+1≤1000000) (hB:B≤w.heap.size)
  (h:∀v' w',OwnQ w' B T v' (D++[y])→Below B w w'→wpList Tryz.prog ops Q rest (a.put o.dst v') w'):wpList Tryz.prog ops Q (o :: rest) a w:=by
 obtain⟨i0,hi,hz0,hz1,hz2⟩:=info_parts info61
 obtain⟨l,hl,hown,hval⟩:=hrow
 obtain⟨o1,o2,o3,o4,o5⟩:=cells_one hv
 refine wpList_append_own _ hgd s x 38 ho B 61 i0 _ 7 88 Tryz.underlying38 hi hz0 hz1 hz2 rfl (by decide) v l.length (chQ l) hs hown ⟨b9,0,none⟩ 1 1 [.string y.1,c.1,c.2.1,c.2.2.1,c.2.2.2.1,c.2.2.2.2,.bool false] hx rfl (fun j u hj=>by rw[hadd,Nat.zero_add,cell_at hb9];simpa using hj) (fun u hj=>by simp at hj;rcases hj with rfl | rfl | rfl | rfl | rfl | rfl | rfl;rfl;exact o1;exact o2;exact o3;exact o4;exact o5;rfl) (by unfold maxLen;omega) (by omega) hB ?_
 intro v' w1 hown1 hgr _
 have hBw:Below B w w1:=(Below.refl B w).grown hgr hB (fun k hk=>(hown.lt k hk).1)
 refine h _ w1 ⟨l++[(y.1,c)],by rw[List.length_append,List.length_append,hl];rfl,?_,fun j x z hx hz=>?_⟩ hBw
 ·unfold chQ
  rw[List.flatMap_append,List.length_append]
  exact hown1
 ·by_cases hj:j<l.length
  ·rw[List.getElem?_append_left hj]at hx
   rw[List.getElem?_append_left (by omega)]at hz
   obtain⟨a1,a2,a3⟩:=hval j x z hx hz
   exact⟨a1,a2,VAt.under a3 hT hBw⟩
  ·rw[List.getElem?_append_right (by omega)]at hx
   rw[List.getElem?_append_right (by omega)]at hz
   have hj0:j-l.length=0:=by
    rcases Nat.eq_zero_or_pos (j-l.length)with h0 | h0
    ·exact h0
    ·rw[List.getElem?_eq_none (by simp;omega)]at hx;cases hx
   rw[hj0]at hx
   rw[show j-D.length=0 by omega]at hz
   simp only[List.getElem?_cons_zero,Option.some.injEq]at hx hz
   subst hx hz
   exact⟨rfl,hy,VAt.under hv hT hBw⟩
def prQ(x:Pr):ByteArray×V×Bool:=(x.1,x.2,false)
theorem OwnQ.inCh{w:World}{B T:Nat}{v:Value}{D:List Pr}(h:OwnQ w B T v D):InCh w v (D.map prQ):=by
 obtain⟨l,hl,⟨_,h2⟩,hval⟩:=h
 rcases h2 with⟨rfl,h0⟩ | ⟨g,cap,cur,rfl,hb,hg,h1,h3,h4,h5⟩
 ·have hD:D=[]:=List.eq_nil_of_length_eq_zero (by omega)
  subst hD
  exact⟨none,0,rfl,Nat.le_refl _,fun j x hx=>by simp at hx⟩
 ·refine⟨some ⟨g,0,none⟩,cap,by rw[hl,List.length_map],by rw[List.length_map];omega,fun j y' hy'=>?_⟩
  rw[List.getElem?_map]at hy'
  obtain⟨y,hy,rfl⟩:=Option.map_eq_some_iff.1 hy'
  have hjl:j<l.length:=by have:=(List.getElem?_eq_some_iff.1 hy).1;omega
  obtain⟨x,hx⟩:∃x,l[j]?=some x:=⟨l[j],List.getElem?_eq_getElem _⟩
  obtain⟨a1,a2,a3⟩:=hval j x y hx hy
  obtain⟨g0,g1,g2,g3,g4,g5,g6⟩:=chQ_get l j x hx
  have hc:∀k u,(chQ l)[k]?=some u→w.cell? ⟨g,0+k,none⟩=some u:=fun k u hk=>by
   rw[←h5,List.getElem?_take]at hk
   split at hk
   ·have hcu:cur[k]?=some u:=by rw[←Array.getElem?_toList];exact hk
    unfold World.cell?
    simp[hg,hcu]
   ·cases hk
  rw[a1]at g0
  exact⟨g,0,_,_,_,_,_,rfl,(Array.getElem?_eq_some_iff.1 hg).1,hc _ _ g0,hc _ _ g1,hc _ _ g2,hc _ _ g3,hc _ _ g4,hc _ _ g5,hc _ _ g6,a3.holds⟩
theorem OwnQ.below{w w':World}{B T:Nat}{v:Value}{D:List Pr}(h:OwnQ w B T v D)(hT:T≤B)(hBw:B≤w.heap.size)(hB:Below w.heap.size w w'):OwnQ w' B T v D:=by
 obtain⟨l,hl,⟨h1,h2⟩,hval⟩:=h
 refine⟨l,hl,⟨h1,?_⟩,fun j x y hx hy=>?_⟩
 ·rcases h2 with h2 | ⟨g,cap,cur,e,hb,hg,h3⟩
  ·exact Or.inl h2
  ·exact Or.inr ⟨g,cap,cur,e,hb,keep_at hB hg,h3⟩
 ·obtain⟨a1,a2,a3⟩:=hval j x y hx hy
  exact⟨a1,a2,VAt.under a3 hT (hB.mono hBw)⟩
end Go.Proofs.YtlogjpmdfimgdaaGreatDoor
namespace Go.Own
theorem er_trA_zero{cs:List Ch}(hl:cs.length≤255)(h:∀c∈cs,c.1.size≤65535∧∀a,c.2=some a→er a 2=0):er (trA cs) 0=0:=by
 unfold trA
 rw[er,if_neg (by rw[List.length_map];omega),ers_zero]
 intro x hx
 obtain⟨c,hc,rfl⟩:=List.mem_map.1 hx
 obtain⟨h1,h2⟩:=h c hc
 obtain⟨k,o⟩:=c
 cases o with
 |none =>
  rw[show chA (k,none)=.list [.str k]from rfl,er,if_neg (by simp),ers_zero]
  intro y hy
  rw[List.mem_singleton.1 hy,er,if_neg (by simpa using h1)]
 |some a =>
  rw[show chA (k,some a)=.list [.str k,a]from rfl,er,if_neg (by simp),ers_zero]
  intro y hy
  rcases List.mem_cons.1 hy with rfl | hy
  ·rw[er,if_neg (by simpa using h1)]
  ·rw[List.mem_singleton.1 hy];exact h2 a rfl
end Go.Own
namespace Go.Proofs.YtlogjpmdfimgdaaGreatDoor
open Go Go.RowKit Go.Own Go.Own.Fr Go.Maps Go.WideMaps
def dTx(D:List Pr)(k:Nat):ByteArray:=prt (trA (((D.drop (k*16)).take 16).map fun x=>(x.1,some (ofV x.2))))
def dTxs(D:List Pr):List ByteArray:=if D=[]then [prt (trA [])]else (List.range ((D.length+15)/16)).map (dTx D)
def PrOk(x:Pr):Prop:=x.1.size≤65535∧fewT x.2∧er (ofV x.2) 2=0∧sz (ofV x.2) 2≤1000000000000
def DAnewQ(D:List Pr)(w:World)(e:Ending)(w':World):Prop:=∃u,e=.returned (.tuple #[u,.int .i64 0])∧OwnS w' w.heap.size u (dTxs D)∧Below w.heap.size w w'
theorem map_prQ(D:List Pr):(D.map prQ).map chV=D.map fun x=>(x.1,some (ofV x.2)):=by
 rw[List.map_map];rfl
theorem text_pairs(D:List Pr)(v:Value)(w:World)(h:InCh w v (D.map prQ))(hl:D.length≤30)(hD:∀x∈D,PrOk x) :
  Calls Tryz.prog 47 #[v] w fun e w'=>e=.returned (.tuple #[.string (prt (trA (D.map fun x=>(x.1,some (ofV x.2))))),.int .i64 0])∧Below w.heap.size w w':=by
 have h0:er (trA ((D.map prQ).map chV)) 0=0:=er_trA_zero (by simp;omega) fun c hc=>by
  rw[map_prQ]at hc
  obtain⟨x,hx,rfl⟩:=List.mem_map.1 hc
  exact⟨(hD x hx).1,fun a ha=>by rw[←Option.some.inj ha];exact(hD x hx).2.2.1⟩
 have h1:=text_any (D.map prQ) v w h (by simp;omega) (fun y hy=>by
  obtain⟨x,hx,rfl⟩:=List.mem_map.1 hy
  exact⟨by have:=(hD x hx).1;show x.1.size≤_;omega,(hD x hx).2.1⟩) (sz_tr30 _ (fun c hc a ha=>by
   rw[map_prQ]at hc
   obtain⟨x,hx,rfl⟩:=List.mem_map.1 hc
   rw[←Option.some.inj ha];exact(hD x hx).2.2.2) (by simp;omega))
 unfold PrintQ at h1
 rw[h0,map_prQ]at h1
 exact h1
set_option maxRecDepth 100000 in
set_option maxHeartbeats 4000000 in
theorem danew_any(D:List Pr)(v:Value)(w:World)(h:PRow w v D)(hl:D.length≤100000)(hD:∀x∈D,PrOk x):Calls Tryz.prog 45 #[v] w (DAnewQ D w):=by
 have HTX:=Lib.hid (fun (E:List Pr) (v:Value) (W:World) (h:InCh W v (E.map prQ)) (hl:E.length≤30) (hE:∀x∈E,x∈D)=>text_pairs E v W h hl (fun x hx=>hD x (hE x hx)))
 have HPO:=Lib.hid hD
 obtain⟨p,cap,rfl,hcap,hrow⟩:=id h
 obtain⟨n,hn⟩:∃n,D.length=n:=⟨_,rfl⟩
 have HN:=Lib.hid hn
 have HROW:=Lib.hid hrow
 have HDN:Hid (n=0→D=[]):=Lib.hid fun h0=>List.eq_nil_of_length_eq_zero (by omega)
 rw[hn]at hl hcap ⊢
 obtain⟨C,hC⟩:∃C,(n+15)/16=C:=⟨_,rfl⟩
 have HCC:=Lib.hid hC
 have HTX0:Hid (∀W:World,Calls Tryz.prog 47 #[.slice none 0 0] W fun e w'=>e=.returned (.tuple #[.string (prt (trA [])),.int .i64 0])∧Below W.heap.size W w'):=Lib.hid fun W=>text_pairs [] _ W ⟨none,0,rfl,Nat.le_refl _,fun j x hx=>by simp at hx⟩ (by simp) (fun x hx=>by simp at hx)
 clear hn h hD hrow hC
 go_enter Tryz.func45,Tryz.ntmps45
 go_wp2
 go_loopw [4,5] (fun u i wr=>∃(j:Nat),j≤C∧i=.int .i64 ((j*16:Nat):Int)∧Hid (OwnS wr w.heap.size u ((List.range j).map (dTx D)))∧Hid (Below w.heap.size w wr)) (fun _ i _=>n+16-(intOf i).toNat)
 case atStart=>exact⟨0,Nat.zero_le _,rfl,Lib.hid (OwnS.nil _ _),Lib.hid (Below.refl _ _)⟩
 case round =>
  obtain⟨j,hj,rfl,HO,HB⟩:=hrel
  by_cases hlt:j<C
  ·have hjn:j*16<n:=by have:=HCC.out;omega
   obtain⟨s,hs⟩:∃s,j*16=s:=⟨_,rfl⟩
   have HS:=Lib.hid hs
   rw[hs]at hjn ⊢
   have hlti:(s:Int)<(n:Int):=by omega
   clear hs
   go_wp2
   obtain⟨wm,hwm⟩:∃wm,wr=wm:=⟨_,rfl⟩
   rw[hwm]at HO HB ⊢
   clear hwm
   go_loopw [6,7] (fun u k wr=>∃(q:Nat),q≤16∧s+q≤n∧k=.int .i64 ((s+q:Nat):Int)∧Hid (OwnQ wr wm.heap.size w.heap.size u ((D.drop s).take q))∧Hid (Below wm.heap.size wm wr)) (fun _ k _=>n-(intOf k).toNat)
   case atStart=>exact⟨0,by omega,by omega,by simp,Lib.hid (OwnQ.nil _ _ _),Lib.hid (Below.refl _ _)⟩
   case round =>
    obtain⟨q,hq,hsq,rfl,HQ,HBI⟩:=hrel
    obtain⟨kk,hkk⟩:∃kk,s+q=kk:=⟨_,rfl⟩
    have HKK:=Lib.hid hkk
    rw[hkk]at hsq ⊢
    have hw16:IntKind.i64.wrap ((s:Int)+16)=(s:Int)+16:=by rw[IntKind.wrap_i64];omega
    by_cases hlt2:q<16∧kk<n
    ·obtain⟨hq16,hkn⟩:=hlt2
     have hkni:(kk:Int)<(n:Int):=by omega
     have hks:(kk:Int)<(s:Int)+16:=by omega
     clear hkk
     obtain⟨x,hx⟩:∃x,D[kk]?=some x:=⟨D[kk]'(by have:=HN.out;omega),List.getElem?_eq_getElem _⟩
     obtain⟨bb,oo,c0,c1,c2,c3,c4,rfl,hbb0,hxz,x0,x1,x2,x3,x4,x5,x6⟩:=HROW.out kk x hx
     have HXT:Hid ((D.drop s).take (q+1)=(D.drop s).take q++[x]):=Lib.hid (take_get (by rw[List.getElem?_drop,HKK.out];exact hx))
     have HXA:Hid (VAt w (fun b=>b<w.heap.size) (.agg #[c0,c1,c2,c3,c4]) x.2):=Lib.hid (VAt.lower x6)
     have HXZ:=Lib.hid hxz
     have HCW:Hid (∀W,Below w.heap.size w W→W.cell? ⟨bb,oo+kk*6,none⟩=some (.string x.1)∧W.cell? ⟨bb,oo+kk*6+1,none⟩=some c0∧W.cell? ⟨bb,oo+kk*6+2,none⟩=some c1∧W.cell? ⟨bb,oo+kk*6+3,none⟩=some c2∧W.cell? ⟨bb,oo+kk*6+4,none⟩=some c3∧W.cell? ⟨bb,oo+kk*6+5,none⟩=some c4):=Lib.hid fun W hW=>⟨(hW.cell hbb0).trans x0,(hW.cell hbb0).trans x1,(hW.cell hbb0).trans x2,(hW.cell hbb0).trans x3,(hW.cell hbb0).trans x4,(hW.cell hbb0).trans x5⟩
     have HLQ:Hid (((D.drop s).take q).length≤16):=Lib.hid (by rw[List.length_take];omega)
     have HBR:=Lib.hid (HB.out.trans (HBI.out.mono HB.out.size))
     have HZM:=Lib.hid HB.out.size
     clear hx x0 x1 x2 x3 x4 x5 x6 hxz
     go_wp2_with fail
     refine wp_region_fine_drop 13 (TL [eqv (u6),eqv (.slice (some ⟨bb,oo,none⟩) n cap),eqv (.int .i64 (kk:Int)),eqv (.pointer (some ⟨bb,oo+kk*6,none⟩)),eqv (.pointer (some ⟨bb,oo+kk*6,none⟩)),eqv (.string x.1),eqv (.slice (some ⟨bb,oo,none⟩) n cap),eqv (.int .i64 (kk:Int)),eqv (.pointer (some ⟨bb,oo+kk*6,none⟩)),eqv (.pointer (some ⟨bb,oo+kk*6+1,none⟩)),eqv (.agg #[c0,c1,c2,c3,c4]),eqv (.agg #[.string x.1,c0,c1,c2,c3,c4,.bool false]),Sl7 x.1 (c0,c1,c2,c3,c4)]) (by kernel_rfl) (by kernel_rfl) (by kernel_rfl) (by kernel_rfl) (TL_last (List.forall_mem_cons.2 ⟨eqv_last _,List.forall_mem_cons.2 ⟨eqv_last _,List.forall_mem_cons.2 ⟨eqv_last _,List.forall_mem_cons.2 ⟨eqv_last _,List.forall_mem_cons.2 ⟨eqv_last _,List.forall_mem_cons.2 ⟨eqv_last _,List.forall_mem_cons.2 ⟨eqv_last _,List.forall_mem_cons.2 ⟨eqv_last _,List.forall_mem_cons.2 ⟨eqv_last _,List.forall_mem_cons.2 ⟨eqv_last _,List.forall_mem_cons.2 ⟨eqv_last _,List.forall_mem_cons.2 ⟨eqv_last _,List.forall_mem_cons.2 ⟨Sl7_last _ _,fun _ h=>(List.not_mem_nil h).elim⟩⟩⟩⟩⟩⟩⟩⟩⟩⟩⟩⟩⟩)) (TL_no_guard (by kernel_rfl)) ?_ ?_
     ·intro ix o' ho a' W' hB hdep hfix
      simp only[List.take_succ_cons,List.take_zero]at ho hdep hfix
      obtain⟨x0,x1,x2,x3,x4,x5⟩:=HCW.out W' (HBR.out.trans (hB.mono HBR.out.size))
      match ix,ho with
      |0,ho =>
       obtain rfl:=Option.some.inj ho
       exact lays_eq _ rfl (exec_move (hfix 6 (by decide +kernel)))
      |1,ho =>
       obtain rfl:=Option.some.inj ho
       exact lays_eq _ rfl (exec_move (hfix 0 (by decide +kernel)))
      |2,ho =>
       obtain rfl:=Option.some.inj ho
       exact lays_eq _ rfl (exec_move (hfix 7 (by decide +kernel)))
      |3,ho =>
       obtain rfl:=Option.some.inj ho
       have e1:a'.tmps.getD 32 undef=.slice (some ⟨bb,oo,none⟩) n cap:=hdep 1 _ 32 rfl rfl (by decide +kernel)
       have e2:a'.tmps.getD 33 undef=.int .i64 (kk:Int):=hdep 2 _ 33 rfl rfl (by decide +kernel)
       exact lays_eq _ rfl (exec_ix32 e1 e2 hkn)
      |4,ho =>
       obtain rfl:=Option.some.inj ho
       have e1:a'.tmps.getD 34 undef=.pointer (some ⟨bb,oo+kk*6,none⟩):=hdep 3 _ 34 rfl rfl (by decide +kernel)
       exact lays_eq _ rfl (exec_fdT e1 (fa82 bb (oo+kk*6) W').1)
      |5,ho =>
       obtain rfl:=Option.some.inj ho
       have e1:a'.tmps.getD 35 undef=.pointer (some ⟨bb,oo+kk*6,none⟩):=hdep 4 _ 35 rfl rfl (by decide +kernel)
       exact lays_eq _ rfl (exec_ldT e1 (ld9o x0))
      |6,ho =>
       obtain rfl:=Option.some.inj ho
       exact lays_eq _ rfl (exec_move (hfix 0 (by decide +kernel)))
      |7,ho =>
       obtain rfl:=Option.some.inj ho
       exact lays_eq _ rfl (exec_move (hfix 7 (by decide +kernel)))
      |8,ho =>
       obtain rfl:=Option.some.inj ho
       have e1:a'.tmps.getD 37 undef=.slice (some ⟨bb,oo,none⟩) n cap:=hdep 6 _ 37 rfl rfl (by decide +kernel)
       have e2:a'.tmps.getD 38 undef=.int .i64 (kk:Int):=hdep 7 _ 38 rfl rfl (by decide +kernel)
       exact lays_eq _ rfl (exec_ix32 e1 e2 hkn)
      |9,ho =>
       obtain rfl:=Option.some.inj ho
       have e1:a'.tmps.getD 39 undef=.pointer (some ⟨bb,oo+kk*6,none⟩):=hdep 8 _ 39 rfl rfl (by decide +kernel)
       exact lays_eq _ rfl (exec_fdT e1 (fa82 bb (oo+kk*6) W').2)
      |10,ho =>
       obtain rfl:=Option.some.inj ho
       have e1:a'.tmps.getD 40 undef=.pointer (some ⟨bb,oo+kk*6+1,none⟩):=hdep 9 _ 40 rfl rfl (by decide +kernel)
       exact lays_eq _ rfl (exec_ldT e1 (ld59o x1 x2 x3 x4 x5))
      |11,ho =>
       obtain rfl:=Option.some.inj ho
       have e1:a'.tmps.getD 36 undef=.string x.1:=hdep 5 _ 36 rfl rfl (by decide +kernel)
       have e2:a'.tmps.getD 41 undef=.agg #[c0,c1,c2,c3,c4]:=hdep 10 _ 41 rfl rfl (by decide +kernel)
       exact lays_eq _ rfl (exec_bd61 e1 e2)
      |12,ho =>
       obtain rfl:=Option.some.inj ho
       have e1:a'.tmps.getD 42 undef=.agg #[.string x.1,c0,c1,c2,c3,c4,.bool false]:=hdep 11 _ 42 rfl rfl (by decide +kernel)
       exact lays_value (v:=.slice (some ⟨W'.heap.size,0,none⟩) 1 1) (W':=W'.alloc (.cells #[.string x.1,c0,c1,c2,c3,c4,.bool false] 61)) (exec_bs38 e1) (below_new W' _) ⟨_,rfl,heap_alloc_new W' _⟩
      |ix+13,ho=>simp at ho
     ·intro a' W' hB hd hsz hfix hTT
      simp only[List.take_succ_cons,List.take_zero,List.drop_succ_cons,List.drop_zero]at hfix hTT ⊢
      have f0:a'.tmps.getD 0 undef=.slice (some ⟨bb,oo,none⟩) n cap:=hfix 0 (by decide +kernel)
      have f1:a'.tmps.getD 1 undef=undef:=hfix 1 (by decide +kernel)
      have f2:a'.tmps.getD 2 undef=u2:=hfix 2 (by decide +kernel)
      have f3:a'.tmps.getD 3 undef=u3:=hfix 3 (by decide +kernel)
      have f4:a'.tmps.getD 4 undef=u4:=hfix 4 (by decide +kernel)
      have f5:a'.tmps.getD 5 undef=.int .i64 (s:Int):=hfix 5 (by decide +kernel)
      have f7:a'.tmps.getD 7 undef=.int .i64 (kk:Int):=hfix 7 (by decide +kernel)
      have f8:a'.tmps.getD 8 undef=u8:=hfix 8 (by decide +kernel)
      have f9:a'.tmps.getD 9 undef=u9:=hfix 9 (by decide +kernel)
      have f10:a'.tmps.getD 10 undef=undef:=hfix 10 (by decide +kernel)
      have f11:a'.tmps.getD 11 undef=undef:=hfix 11 (by decide +kernel)
      have f12:a'.tmps.getD 12 undef=.int .i64 (s:Int):=hfix 12 (by decide +kernel)
      have f13:a'.tmps.getD 13 undef=.slice (some ⟨bb,oo,none⟩) n cap:=hfix 13 (by decide +kernel)
      have f14:a'.tmps.getD 14 undef=.int .i64 (n:Int):=hfix 14 (by decide +kernel)
      have f15:a'.tmps.getD 15 undef=.bool true:=hfix 15 (by decide +kernel)
      have f16:a'.tmps.getD 16 undef=u16:=hfix 16 (by decide +kernel)
      have f17:a'.tmps.getD 17 undef=u17:=hfix 17 (by decide +kernel)
      have f18:a'.tmps.getD 18 undef=.int .i64 (s:Int):=hfix 18 (by decide +kernel)
      have f45:a'.tmps.getD 45 undef=u45:=hfix 45 (by decide +kernel)
      have f46:a'.tmps.getD 46 undef=u46:=hfix 46 (by decide +kernel)
      have f47:a'.tmps.getD 47 undef=u47:=hfix 47 (by decide +kernel)
      have f48:a'.tmps.getD 48 undef=u48:=hfix 48 (by decide +kernel)
      have f49:a'.tmps.getD 49 undef=u49:=hfix 49 (by decide +kernel)
      have f50:a'.tmps.getD 50 undef=u50:=hfix 50 (by decide +kernel)
      have f51:a'.tmps.getD 51 undef=u51:=hfix 51 (by decide +kernel)
      have f52:a'.tmps.getD 52 undef=u52:=hfix 52 (by decide +kernel)
      have f53:a'.tmps.getD 53 undef=u53:=hfix 53 (by decide +kernel)
      have f54:a'.tmps.getD 54 undef=u54:=hfix 54 (by decide +kernel)
      have f55:a'.tmps.getD 55 undef=u55:=hfix 55 (by decide +kernel)
      have f56:a'.tmps.getD 56 undef=u56:=hfix 56 (by decide +kernel)
      have f57:a'.tmps.getD 57 undef=undef:=hfix 57 (by decide +kernel)
      have f58:a'.tmps.getD 58 undef=undef:=hfix 58 (by decide +kernel)
      have f59:a'.tmps.getD 59 undef=undef:=hfix 59 (by decide +kernel)
      have f60:a'.tmps.getD 60 undef=undef:=hfix 60 (by decide +kernel)
      have f61:a'.tmps.getD 61 undef=undef:=hfix 61 (by decide +kernel)
      have f62:a'.tmps.getD 62 undef=undef:=hfix 62 (by decide +kernel)
      have f63:a'.tmps.getD 63 undef=undef:=hfix 63 (by decide +kernel)
      have f64:a'.tmps.getD 64 undef=undef:=hfix 64 (by decide +kernel)
      have f65:a'.tmps.getD 65 undef=undef:=hfix 65 (by decide +kernel)
      have f66:a'.tmps.getD 66 undef=undef:=hfix 66 (by decide +kernel)
      have f67:a'.tmps.getD 67 undef=undef:=hfix 67 (by decide +kernel)
      have f68:a'.tmps.getD 68 undef=undef:=hfix 68 (by decide +kernel)
      have f31:a'.tmps.getD 31 undef=u6:=hTT 0 _ 31 rfl rfl
      have gs:Sl7 x.1 (c0,c1,c2,c3,c4) (a'.tmps.getD 43 undef) W':=hTT 12 _ 43 rfl rfl
      rw[frame_lit a' 69 hsz hd]
      clear hfix hTT hsz hd
      simp only[List.range,List.range.loop,List.map]
      generalize a'.tmps=tm at *
      simp only[f0,f1,f2,f3,f4,f5,f7,f8,f9,f10,f11,f12,f13,f14,f15,f16,f17,f18,f45,f46,f47,f48,f49,f50,f51,f52,f53,f54,f55,f56,f57,f58,f59,f60,f61,f62,f63,f64,f65,f66,f67,f68,f31]
      clear f0 f1 f2 f3 f4 f5 f7 f8 f9 f10 f11 f12 f13 f14 f15 f16 f17 f18 f45 f46 f47 f48 f49 f50 f51 f52 f53 f54 f55 f56 f57 f58 f59 f60 f61 f62 f63 f64 f65 f66 f67 f68 f31
      obtain⟨b9,e9,k9⟩:=gs
      simp only[e9]
      have HBW:=Lib.hid (HBI.out.trans (hB.mono HBI.out.size))
      have HQW:=Lib.hid (HQ.out.below HZM.out HBI.out.size hB)
      have HBF:=HBR.out.trans (hB.mono HBR.out.size)
      have HVW:Hid (VAt W' (fun b=>b<w.heap.size) (.agg #[c0,c1,c2,c3,c4]) x.2):=Lib.hid (HXA.out.keep (fun _ h _=>h) HBF.size (fun b hb _=>HBF.block b hb))
      clear hB e9 HBF
      go_wp2_with (first | (at_builtin;refine wpList_chAt rfl (.tmp 31) (.tmp 43) rfl wm.heap.size w.heap.size HZM.out u6 ((D.drop s).take q) (c0,c1,c2,c3,c4) x b9 k9 rfl HQW.out HXZ.out HVW.out rfl (by have:=HLQ.out;omega) HBW.out.size ?_) | fail)
      intro v6 w6 hQ6 hB6
      have HQ6:Hid (OwnQ w6 wm.heap.size w.heap.size v6 ((D.drop s).take (q+1))):=Lib.hid (by rw[HXT.out];exact hQ6)
      have HB6:=Lib.hid (HBW.out.trans hB6)
      have HK1:Hid (s+(q+1)=kk+1):=Lib.hid (by have:=HKK.out;omega)
      clear hQ6 hB6 k9 HBW HQW HVW
      go_wp2
      go_roundw
      case rel=>exact⟨q+1,by omega,by have:=HK1.out;omega,by rw[HK1.out];go_num,HQ6,HB6⟩
      case measure=>simp[intOf];omega
    ·have hex:((D.drop s).take q)=(D.drop s).take 16:=by
      by_cases h16:q<16
      ·have hk:n≤kk:=by omega
       have h1:(D.drop s).length≤q:=by rw[List.length_drop,HN.out];have:=HKK.out;omega
       rw[List.take_of_length_le h1,List.take_of_length_le (by omega)]
      ·have:q=16:=by omega
       rw[this]
     rw[hex]at HQ
     have HT:=Lib.hid (HTX.out ((D.drop s).take 16) u6 wr HQ.out.inCh (by rw[List.length_take];omega) (fun x hx=>List.mem_of_mem_drop (List.mem_of_mem_take hx)))
     have HDT:Hid (prt (trA (((D.drop s).take 16).map fun x=>(x.1,some (ofV x.2))))=dTx D j):=Lib.hid (by unfold dTx;rw[HS.out])
     rw[HDT.out]at HT
     obtain⟨tx,htx⟩:∃tx,dTx D j=tx:=⟨_,rfl⟩
     have HTXE:=Lib.hid htx
     rw[htx]at HT
     have HOW:=Lib.hid (HO.out.below HBI.out)
     have HBR:=Lib.hid (HB.out.trans (HBI.out.mono HB.out.size))
     have HJL:Hid (((List.range j).map (dTx D)).length≤100000):=Lib.hid (by rw[List.length_map,List.length_range];have:=HCC.out;omega)
     clear hex htx HQ HDT
     have hgo:(kk<n→¬(kk:Int)<(s:Int)+16):=fun h=>by have:=HKK.out;omega
     by_cases hkn:kk<n
     ·have hks:¬(kk:Int)<(s:Int)+16:=hgo hkn
      have hkni:(kk:Int)<(n:Int):=by omega
      clear hgo hkk
      go_wp2_with fail
      refine HT.out.mono ?_
      rintro e w3 ⟨rfl,hb3⟩
      have HO3:=Lib.hid (HOW.out.below hb3)
      have HB3:=Lib.hid (HBR.out.trans (hb3.mono HBR.out.size))
      clear hb3
      go_wp2_with (first | (at_builtin;refine wpList_str rfl (.tmp 53) (.tmp 55) rfl w3 w.heap.size u4 ((List.range j).map (dTx D)) tx rfl rfl HO3.out rfl (by have:=HJL.out;omega) HB3.out.size ?_) | fail)
      intro v5 w5 hO5 _ hB5
      have HO5:Hid (OwnS w5 w.heap.size v5 ((List.range (j+1)).map (dTx D))):=Lib.hid (by rw[List.range_succ,List.map_append,List.map_cons,List.map_nil,HTXE.out];exact hO5)
      have HB5:Hid (Below w.heap.size w w5):=Lib.hid (HB3.out.trans hB5)
      have HJ1:Hid (s+16=(j+1)*16):=Lib.hid (by have:=HS.out;omega)
      clear hO5 hB5
      go_wp2
      go_roundw
      case rel=>exact⟨j+1,by omega,by rw[←HJ1.out];go_num,HO5,HB5⟩
      case measure=>simp[intOf];omega
     ·have hkni:¬(kk:Int)<(n:Int):=by omega
      clear hgo hkk
      by_cases hks:(kk:Int)<(s:Int)+16
      ·skip
       go_wp2_with fail
       refine HT.out.mono ?_
       rintro e w3 ⟨rfl,hb3⟩
       have HO3:=Lib.hid (HOW.out.below hb3)
       have HB3:=Lib.hid (HBR.out.trans (hb3.mono HBR.out.size))
       clear hb3
       go_wp2_with (first | (at_builtin;refine wpList_str rfl (.tmp 53) (.tmp 55) rfl w3 w.heap.size u4 ((List.range j).map (dTx D)) tx rfl rfl HO3.out rfl (by have:=HJL.out;omega) HB3.out.size ?_) | fail)
       intro v5 w5 hO5 _ hB5
       have HO5:Hid (OwnS w5 w.heap.size v5 ((List.range (j+1)).map (dTx D))):=Lib.hid (by rw[List.range_succ,List.map_append,List.map_cons,List.map_nil,HTXE.out];exact hO5)
       have HB5:Hid (Below w.heap.size w w5):=Lib.hid (HB3.out.trans hB5)
       have HJ1:Hid (s+16=(j+1)*16):=Lib.hid (by have:=HS.out;omega)
       clear hO5 hB5
       go_wp2
       go_roundw
       case rel=>exact⟨j+1,by omega,by rw[←HJ1.out];go_num,HO5,HB5⟩
       case measure=>simp[intOf];omega
      ·skip
       go_wp2_with fail
       refine HT.out.mono ?_
       rintro e w3 ⟨rfl,hb3⟩
       have HO3:=Lib.hid (HOW.out.below hb3)
       have HB3:=Lib.hid (HBR.out.trans (hb3.mono HBR.out.size))
       clear hb3
       go_wp2_with (first | (at_builtin;refine wpList_str rfl (.tmp 53) (.tmp 55) rfl w3 w.heap.size u4 ((List.range j).map (dTx D)) tx rfl rfl HO3.out rfl (by have:=HJL.out;omega) HB3.out.size ?_) | fail)
       intro v5 w5 hO5 _ hB5
       have HO5:Hid (OwnS w5 w.heap.size v5 ((List.range (j+1)).map (dTx D))):=Lib.hid (by rw[List.range_succ,List.map_append,List.map_cons,List.map_nil,HTXE.out];exact hO5)
       have HB5:Hid (Below w.heap.size w w5):=Lib.hid (HB3.out.trans hB5)
       have HJ1:Hid (s+16=(j+1)*16):=Lib.hid (by have:=HS.out;omega)
       clear hO5 hB5
       go_wp2
       go_roundw
       case rel=>exact⟨j+1,by omega,by rw[←HJ1.out];go_num,HO5,HB5⟩
       case measure=>simp[intOf];omega
  ·obtain rfl:j=C:=by omega
   have hjn:¬((j*16:Nat):Int)<(n:Int):=by have:=HCC.out;omega
   obtain⟨s,hs⟩:∃s,j*16=s:=⟨_,rfl⟩
   rw[hs]at hjn ⊢
   by_cases hn0:n=0
   ·have hj0:j=0:=by have:=HCC.out;omega
    subst hj0
    have hD0:=HDN.out hn0
    have HE:Hid (dTxs D=[prt (trA [])]):=Lib.hid (by unfold dTxs;rw[if_pos hD0])
    obtain⟨t0,ht0⟩:∃t0,prt (trA [])=t0:=⟨_,rfl⟩
    rw[ht0]at HE HTX0
    have HTZ:=Lib.hid (HTX0.out wr)
    obtain⟨rp,rc,hrs⟩:∃rp rc,u4=.slice rp 0 rc:=by
     obtain⟨h1,h2⟩:=HO.out
     rcases h2 with⟨rfl,_⟩ | ⟨g,cap,cur,rfl,_⟩
     ·exact⟨_,_,rfl⟩
     ·exact⟨_,_,rfl⟩
    have HU:=Lib.hid hrs
    rw[HU.out]at HO ⊢
    clear hs hD0 ht0 hrs
    go_wp2_with fail
    refine HTZ.out.mono ?_
    rintro e w3 ⟨rfl,hb3⟩
    have HO3:=Lib.hid (HO.out.below hb3)
    have HB3:=Lib.hid (HB.out.trans (hb3.mono HB.out.size))
    clear hb3
    go_wp2_with (first | (at_builtin;refine wpList_str rfl (.tmp 64) (.tmp 66) rfl w3 w.heap.size (.slice rp 0 rc) ((List.range 0).map (dTx D)) t0 rfl rfl HO3.out rfl (by simp) HB3.out.size ?_) | fail)
    intro v5 w5 hO5 _ hB5
    have HO5:Hid (OwnS w5 w.heap.size v5 (dTxs D)):=Lib.hid (by rw[HE.out];exact hO5)
    have HB5:Hid (Below w.heap.size w w5):=Lib.hid (HB3.out.trans hB5)
    clear hO5 hB5
    go_wp2
    go_ret2
    exact⟨_,rfl,HO5.out,HB5.out⟩
   ·have HE:Hid (dTxs D=(List.range j).map (dTx D)):=Lib.hid (by
     unfold dTxs
     rw[if_neg (fun e=>hn0 (by rw[←HN.out,e];rfl)),HN.out,HCC.out])
    have hO:=HO.out
    rw[←HE.out]at hO
    have HOE:=Lib.hid hO
    have hlen:(dTxs D).length=j:=by rw[HE.out,List.length_map,List.length_range]
    obtain⟨rp,rc,hrs⟩:∃rp rc,u4=.slice rp j rc:=by
     obtain⟨h1,h2⟩:=hO
     rcases h2 with⟨rfl,h3⟩ | ⟨g,cap,cur,rfl,_⟩
     ·rw[hlen]at h3;rw[h3];exact⟨_,_,rfl⟩
     ·rw[hlen];exact⟨_,_,rfl⟩
    have hj0:¬(j:Int)=0:=by have:=HCC.out;omega
    have hj1:((j:Int) == 0)=false:=by simpa using hj0
    subst hrs
    clear hs hO hlen HO
    go_wp2
    go_ret2
    exact⟨_,rfl,HOE.out,HB.out⟩
end Go.Proofs.YtlogjpmdfimgdaaGreatDoor

/- A region that draws its order: its first n operations read, or call what leaves a world of a class (say: the old one with more blocks); then a tail in one order. One walk in the text's order serves. No condition. -/
import Derived.Test.YtlogjpmdfimgdaaGreatDoorZ01
import Derived.StillTail
import Derived.Still
import Derived.Deep.Quiet
import Derived.Deep.QuietTactic
namespace Go.Own.Jf
open Go Go.RowKit
section
variable{P:Program}{ops:Array Oper}{md:Region.Mode}{C:World→Prop}
def HeadQ(P:Program)(md:Region.Mode)(ops:Array Oper)(C:World→Prop)(n:Nat)(L:Array Bool→Act→Prop):Nat→Array Bool→Act→Prop
 |0,done,a=>L done a
 |f+1,done,a=>Region.ready md ops done≠[]∧∀i∈Region.ready md ops done,i<n∧qOp P ops C i (HeadQ P md ops C n L f (done.setIfInBounds i true)) a
theorem HeadQ.any{n g:Nat}{L:Array Bool→Act→Prop}{Q:Exit→Act→World→Prop}(hL:∀done a w,C w→L done a→wpAny P md ops Q g done a w) :
  ∀(f:Nat) (done:Array Bool) (a:Act) (w:World),C w→HeadQ P md ops C n L f done a→wpAny P md ops Q (f+g) done a w:=by
 intro f
 induction f with
 |zero=>intro done a w hw h;rw[Nat.zero_add];exact hL _ _ _ hw h
 |succ f ih =>
  intro done a w hw h
  rw[Nat.add_right_comm]
  exact⟨fun e=>absurd e h.1,fun i hi=>wpOp_of_qOp hw (fun a' w' hw' h'=>ih _ a' w' hw' h') (h.2 i hi).2⟩
theorem HeadQ.first{n i:Nat}{oi:Oper}{v:Value}{L:Array Bool→Act→Prop}(hi:ops[i]?=some oi)(hsel:∀(j:Nat) (o:Oper) cs b,ops[j]?=some o→o.op≠.select cs b)
  (hs:Region.sinkB md ops n=true) (hc:Region.chainB md ops n=true) (hn:n<ops.size) (hin:i<n)
  (hdone:∀done a,L done a→∀j∈Region.ready md ops done,n≤j) :
  ∀(f:Nat) (done:Array Bool) (a:Act),HeadInv md ops n done →
   (∀j oj,ops[j]?=some oj→j≠i→done.getD j true=false→(∀e∈oj.after,Region.binds md e=true→e.on≠i)→oi.apart ops oj=true) →
   i∈Region.ready md ops done→YieldsIn P ops C oi v a →
   HeadQ P md ops C n L f (done.setIfInBounds i true) (a.put oi.dst v)→HeadQ P md ops C n L (f+1) done a:=by
 intro f
 induction f with
 |zero =>
  intro done a inv _ hr hy H
  refine⟨List.ne_nil_of_mem hr,fun j hj=>?_⟩
  have hjn:j<n:=Nat.lt_of_not_le fun h=>tail_waits hs hc hn inv _ i rfl hin (mem_ready.1 hr).1 j h hj
  by_cases hji:j=i
  ·subst hji;exact⟨hjn,hy.qOp hi H⟩
  ·exact absurd (hdone _ _ H j (ready_mono hj hji)) (by omega)
 |succ f ih =>
  intro done a inv hfree hr hy H
  have hun:=(mem_ready.1 hr).1
  refine⟨List.ne_nil_of_mem hr,fun j hj=>?_⟩
  have hjn:j<n:=Nat.lt_of_not_le fun h=>tail_waits hs hc hn inv _ i rfl hin hun j h hj
  by_cases hji:j=i
  ·subst hji;exact⟨hjn,hy.qOp hi H⟩
  refine⟨hjn,?_⟩
  obtain⟨hjun,oj,hoj,hall⟩:=mem_ready.1 hj
  have hnot:∀e∈oj.after,Region.binds md e=true→e.on≠i:=by
   intro e he hb heq
   have h1:=hall e he hb
   rw[heq,getD_both hun]at h1
   cases h1
  have h2:=qOp_put hoj (hfree j oj hoj hji hjun hnot) (fun cs b=>hsel i oi cs b hi) (fun cs b=>hsel j oj cs b hoj) hy (H.2 j (ready_mono hj hji)).2
  refine qOp_mono (fun a' h3=>ih (done.setIfInBounds j true) a' (inv.set hj hjn) ?_ (ready_mono hr (Ne.symm hji)) h3.1 ?_) h2
  ·intro k ok hk hki hkun hno
   refine hfree k ok hk hki ?_ hno
   by_cases hjk:j=k
   ·rw[←hjk];exact hjun
   ·rwa [getD_set_ne true hjk]at hkun
  ·rw[Array.setIfInBounds_comm _ _ hji]
   exact h3.2
theorem HeadQ.lex{n g:Nat}{R:Act→Prop}(hsel:Region.noSelect ops=true)(hs:Region.sinkB md ops n=true)(hc:Region.chainB md ops n=true)(hn:n<ops.size) :
  ∀(l:List Oper) (k:Nat) (done:Array Bool) (a:Act),(∀j,j<l.length→l[j]?=ops[k+j]?)→k+l.length=n→HeadInv md ops n done →
  Region.lexHead md ops g l.length k done=true→wpQuiet P ops C R l a →
  HeadQ P md ops C n (fun done' a'=>Region.seqB md ops g n done'=true∧R a') l.length done a:=by
 intro l
 induction l with
 |nil =>
  intro k done a _ hk _ hB h
  obtain rfl:k=n:=hk
  exact⟨hB,h⟩
 |cons o l ih =>
  intro k done a hl hk inv hB h
  rw[List.length_cons]at hk
  have h0:ops[k]?=some o:=(hl 0 (by simp)).symm
  simp only[List.length_cons,Region.lexHead,Bool.and_eq_true]at hB
  obtain⟨⟨hr,hf⟩,hB'⟩:=hB
  have hr':k∈Region.ready md ops done:=by simpa using hr
  have hst:qOp P ops C k (wpQuiet P ops C R l) a:=by unfold qOp;rw[h0];exact h
  obtain⟨v,hy,hK⟩:=yieldsIn_of_qOp h0 hst
  refine HeadQ.first h0 (Region.noSelect_spec hsel) hs hc hn (by omega) (fun _ _ hL=>seqB_ready hL.1) l.length done a inv (Region.free_spec h0 hf) hr' hy ?_
  refine ih (k+1) _ _ (fun j hj=>?_) (by omega) (inv.set hr' (by omega)) hB' hK
  have:=hl (j+1) (by rw[List.length_cons];omega)
  rwa [List.getElem?_cons_succ,←Nat.add_assoc,Nat.add_right_comm]at this
theorem wp_region_class_tail{id:Nat}{Q:Exit→Act→World→Prop}{a:Act}{w:World}{l:List Oper}(n:Nat)(hm:P.follows .mixedOrders=true)(hB:Region.lexTailB .any l.toArray n=true)
  (hC:C { w with drawn:=w.drawn+1 })
  (h:wpQuiet P l.toArray C (fun a'=>∀w',C w'→wpList P l.toArray Q (l.drop n) a' w') (l.take n) a):(Code.region id l.toArray true).wp P Q a w:=by
 simp only[Region.lexTailB,Bool.and_eq_true,decide_eq_true_eq]at hB
 obtain⟨⟨⟨⟨hsel,hn⟩,hs⟩,hc⟩,hlex⟩:=hB
 have hnl:n<l.length:=by simpa using hn
 have htl:(l.take n).length=n:=List.length_take_of_le (Nat.le_of_lt hnl)
 have hdl:(l.drop n).length=l.toArray.size-n:=by simp
 have inv0:HeadInv .any l.toArray n (Array.replicate l.toArray.size false) :=
  {size:=by simp
   closed:=fun j oj _ hl=>by rw[getD_replicate_false]at hl;cases hl
   tail:=fun t _ ht=>getD_in (by simpa using ht) (getD_replicate_false _ _) }
 have H:=HeadQ.lex (md:=.any) (g:=l.toArray.size-n) hsel hs hc hn (l.take n) 0 _ a
  (fun j hj=>by rw[htl]at hj;simp[hj]) (by omega) inv0 (by rw[htl];exact hlex) h
 have K:=HeadQ.any (Q:=Q) (g:=l.toArray.size-n) (fun done a' w' hw' hL=>by
  have:=wpAny_of_seq (P:=P) (md:=.any) (Q':=Q) (l.drop n) n done a' w' (fun j=>by simp[List.getElem?_drop]) (by rw[hdl];exact hL.1) (hL.2 w' hw')
  rwa [hdl]at this) _ _ _ _ hC H
 rw[htl,Nat.add_sub_cancel' (Nat.le_of_lt hn)]at K
 exact wp_region_any hm K
end
theorem wp_region_more{P:Program}{id:Nat}{Q:Exit→Act→World→Prop}{a:Act}{w:World}{l0:List Obj}{d:Nat}{l:List Oper}(n:Nat)(hm:P.follows .mixedOrders=true)(hB:Region.lexTailB .any l.toArray n=true)
  (h:wpQuiet P l.toArray (fun W=>∃g e,W=Wd w (l0++g) e) (fun a'=>∀g e,wpList P l.toArray Q (l.drop n) a' (Wd w (l0++g) e)) (l.take n) a):(Code.region id l.toArray true).wp P Q a (Wd w l0 d):=by
 refine wp_region_class_tail (C:=fun W=>∃g e,W=Wd w (l0++g) e) n hm hB ⟨[],d+1,by rw[List.append_nil];rfl⟩ ?_
 have e:(fun a'=>∀w',(∃g e,w'=Wd w (l0++g) e)→wpList P l.toArray Q (l.drop n) a' w')=fun a'=>∀g e,wpList P l.toArray Q (l.drop n) a' (Wd w (l0++g) e):=by
  funext a'
  apply propext
  exact⟨fun h g e=>h _ ⟨g,e,rfl⟩,fun h w' ⟨g,e,hw⟩=>hw▸h g e⟩
 rw[e]
 exact h
theorem wp_region_read{P:Program}{id:Nat}{Q:Exit→Act→World→Prop}{a:Act}{w:World}{l0:List Obj}{d:Nat}{l:List Oper}(hm:P.follows .mixedOrders=true)(hB:Region.lexB .any l.toArray=true)
  (h:wpStill P l.toArray (Wd w l0 (d+1)) (fun a'=>Q .normal a' (Wd w l0 (d+1))) l a):(Code.region id l.toArray true).wp P Q a (Wd w l0 d) :=
 wp_region_still_lit hm hB h
theorem wp_region_tail{P:Program}{id:Nat}{Q:Exit→Act→World→Prop}{a:Act}{w:World}{l0:List Obj}{d:Nat}{l:List Oper}(n:Nat)(hm:P.follows .mixedOrders=true)(hB:Region.lexTailB .any l.toArray n=true)
  (h:wpStill P l.toArray (Wd w l0 (d+1)) (fun a'=>wpList P l.toArray Q (l.drop n) a' (Wd w l0 (d+1))) (l.take n) a):(Code.region id l.toArray true).wp P Q a (Wd w l0 d) :=
 wp_region_still_tail n hm hB h
theorem more_step{P:Program}{ops:Array Oper}{w:World}{l0:List Obj}{Q:Act→Prop}{a:Act}{o:Oper}{rest:List Oper}
  (h:∀K:Act→Prop,(∀a,wpQuiet P ops (fun W=>∃g e,W=Wd w (l0++g) e) Q rest a→K a) →
   if Region.wanted o (yielded ops a.tmps)then (∃v,(∀(g:List Obj) (e:Nat),Oper.quietUpon P (fun W=>∃g e,W=Wd w (l0++g) e) (Wd w (l0++g) e) v ((execOp a.eval o).run P (Wd w (l0++g) e)))∧K (a.put o.dst v))else K (a.put o.dst undef)) :
  wpQuiet P ops (fun W=>∃g e,W=Wd w (l0++g) e) Q (o :: rest) a:=by
 refine wpQuiet_step fun K hK=>?_
 have:=h K hK
 split
 ·rename_i hw
  rw[if_pos hw]at this
  obtain⟨v,h1,h2⟩:=this
  refine⟨v,?_,h2⟩
  rintro W ⟨g,e,rfl⟩
  exact h1 g e
 ·rename_i hw
  rwa [if_neg hw]at this
theorem more_call{P:Program}{f:FuncId}{args:Array Value}{v:Value}{w:World}{L:List Obj→List Obj}{g:List Obj}{e:Nat}(hL:∀g m,L g++m=L (g++m))
  (h:Calls P f args (Wd w (L g) e) fun x w'=>x=.returned v∧Grows (Wd w (L g) e) w') :
  Calls P f args (Wd w (L g) e) fun x w'=>x=.returned v∧∃g' e',w'=Wd w (L g') e' :=
 h.mono fun _ _ ⟨hx,m,k,hk⟩=>⟨hx,g++m,k,by rw[hk,Wd_wd,hL]⟩
end Go.Own.Jf

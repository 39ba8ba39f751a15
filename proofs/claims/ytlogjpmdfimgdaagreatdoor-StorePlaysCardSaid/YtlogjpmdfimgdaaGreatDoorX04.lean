/- What a change does, told by its list (store's readOne), and doing it: by contract. No condition but the keys' sizes. | Doing a change to a map: by contract. No condition but the sizes. | What a transaction's text does (store's read): by contract. No condition. | A store in memory; its keys, and what stands at them: by contract. No condition but the sizes. | What a journal's functions answer, as hypotheses; a store is opened: by contract. No condition but the sizes. | A store is opened, given what a journal's functions answer: by contract. -/
import Derived.Test.YtlogjpmdfimgdaaGreatDoorX02
import Derived.Test.YtlogjpmdfimgdaaGreatDoorX03
import Derived.StillTail
import Derived.StillTailTactics
namespace Go.Own
abbrev Ch:=ByteArray×Option A
def chOf:A→Option Ch
 | .list [.str k]=>some (k,none)
 | .list [.str k,v]=>some (k,some v)
 |_=>none
end Go.Own
namespace Go.Proofs.YtlogjpmdfimgdaaGreatDoor
open Go.RowKit Go.Own Go.Maps Go.WideMaps
def OneAt(w:World)(S:Nat→Prop)(cv:Value)(c:Ch):Prop :=
 (c.2=none∧∃kb,cv=.func (.func 78) #[] #[.pointer (some ⟨kb,0,none⟩)]∧S kb∧kb<w.heap.size∧w.heap[kb]?=some (.cells #[.string c.1] 9 (0,0))) ∨
 (∃a lb kb sb off cap v,c.2=some a∧cv=.func (.func 79) #[] #[.pointer (some ⟨lb,0,none⟩),.pointer (some ⟨kb,0,none⟩)]∧S kb∧S lb∧S sb∧kb<w.heap.size∧lb<w.heap.size∧sb<w.heap.size ∧
  w.heap[kb]?=some (.cells #[.string c.1] 9 (0,0))∧w.heap[lb]?=some (.cells #[.slice (some ⟨sb,off,none⟩) 2 cap] 67 (0,0))∧w.cell? ⟨sb,off+1,none⟩=some v∧AAt w S v a)
theorem OneAt.keep{w w':World}{S T:Nat→Prop}{cv:Value}{c:Ch}(h:OneAt w S cv c)(hT:∀b,S b→b<w.heap.size→T b)(hz:w.heap.size≤w'.heap.size)(hk:∀b,S b→b<w.heap.size→w'.heap[b]?=w.heap[b]?):OneAt w' T cv c:=by
 rcases h with⟨h0,kb,h1,h2,h3,h4⟩ | ⟨a,lb,kb,sb,off,cap,v,h0,h1,h2,h3,h4,h5,h6,h7,h8,h9,h10,h11⟩
 ·exact Or.inl ⟨h0,kb,h1,hT _ h2 h3,by omega,(hk _ h2 h3).trans h4⟩
 ·exact Or.inr ⟨a,lb,kb,sb,off,cap,v,h0,h1,hT _ h2 h5,hT _ h3 h6,hT _ h4 h7,by omega,by omega,by omega,(hk _ h2 h5).trans h8,(hk _ h3 h6).trans h9,(World.cell?_of_block (w:=w) (hk _ h4 h7)).trans h10,h11.keep hT hz hk⟩
def ReadOneQ(r:Option Ch)(S:Nat→Prop)(w:World)(e:Ending)(w':World):Prop :=
 Below w.heap.size w w'∧((r=none∧∃v,e=.returned (.tuple #[v,.bool false]))∨∃c cv,r=some c∧e=.returned (.tuple #[cv,.bool true])∧OneAt w' (fun b=>S b∨w.heap.size≤b) cv c)
theorem chOf_none{a:A}(h:∀l,a≠.list l):chOf a=none:=by
 cases a <;> first | rfl | exact absurd rfl (h _)
set_option maxRecDepth 100000 in
set_option maxHeartbeats 2000000 in
theorem readOne_any(a:A)(S:Nat→Prop)(v:Value)(w:World)(hv:AAt w S v a):Calls Tryz.prog 54 #[v] w (ReadOneQ (chOf a) S w):=by
 rcases a_cases a with hn | ⟨l,rfl⟩
 ·rw[chOf_none hn]
  have hQ:Hid (∀w',Below w.heap.size w w'→∀v,ReadOneQ none S w (.returned (.tuple #[v,.bool false])) w'):=Lib.hid fun w' hB v=>⟨hB,Or.inl ⟨rfl,v,rfl⟩⟩
  cases hv
  case list=>exact absurd rfl (hn _)
  case nil=>exact absurd rfl (hn _)
  all_goals
   clear hn
   go_enter Tryz.func54,Tryz.ntmps54
   go_wp2
   go_ret2
   exact hQ.out _ ((Below.refl _ w).alloc (Nat.le_refl _) _) _
 ·have hlist:∀r,chOf (.list l)=r→(∀w',Below w.heap.size w w'→r=none→∀v,ReadOneQ (chOf (.list l)) S w (.returned (.tuple #[v,.bool false])) w'):=fun r hr w' hB h0 v=>by
   rw[hr,h0]
   exact⟨hB,Or.inl ⟨rfl,v,rfl⟩⟩
  cases hv with
  |nil =>
   have hQ:=Lib.hid (hlist none rfl)
   clear hlist
   go_enter Tryz.func54,Tryz.ntmps54
   go_wp2
   go_ret2
   exact hQ.out _ ((Below.refl _ w).alloc (Nat.le_refl _) _) trivial _
  |list b o n cap _ U hn hS hb hle hm hc ha =>
   match l,hn with
   | [],hn =>
    have hQ:=Lib.hid (hlist none rfl)
    have hn0:(n:Int)=0:=by simp at hn;omega
    clear hlist hc ha
    subst hn
    go_enter Tryz.func54,Tryz.ntmps54
    go_wp2
    go_ret2
    exact hQ.out _ ((Below.refl _ w).alloc (Nat.le_refl _) _) trivial _
   |x :: y :: z :: r,hn =>
    have hQ:=Lib.hid (hlist none (by cases x <;> rfl))
    have hn2:(2:Int)<(n:Int):=by simp at hn;omega
    have hn1:¬(n:Int)<1:=by omega
    clear hlist hc ha hn
    go_enter Tryz.func54,Tryz.ntmps54
    go_wp2
    go_ret2
    exact hQ.out _ ((Below.refl _ w).alloc (Nat.le_refl _) _) trivial _
   | [x],hn =>
    have c0:=hc 0 x rfl
    have a0:=ha 0 x rfl
    rw[Nat.add_zero]at c0
    generalize U 0=u at c0 a0
    have hn1:(n:Int)=1:=by simp at hn;omega
    have hb0:0<n:=by simp at hn;omega
    clear hc ha hn
    cases a0
    case str k hk =>
     clear hlist
     go_enter Tryz.func54,Tryz.ntmps54
     go_wp2
     go_ret2
     exact⟨((Below.refl _ w).alloc (Nat.le_refl _) _).alloc (by simp) _,Or.inr ⟨(k,none),_,rfl,rfl,Or.inl ⟨rfl,w.heap.size+1,rfl,Or.inr (by omega),by simp,by
      have h:=heap_alloc_new (w.alloc (Obj.cells #[Value.slice (some { block:=b,off:=o }) n cap] 67)) (Obj.cells #[Value.string k] 9)
      simpa using h⟩⟩⟩
    all_goals
     have hQ:=Lib.hid (hlist none rfl)
     clear hlist
     go_enter Tryz.func54,Tryz.ntmps54
     go_wp2
     go_ret2
     exact hQ.out _ (((Below.refl _ w).alloc (Nat.le_refl _) _).alloc (by simp) _) trivial _
   | [x,y],hn =>
    have c0:=hc 0 x rfl
    have a0:=ha 0 x rfl
    have c1:=hc 1 y rfl
    have a1:=ha 1 y rfl
    rw[Nat.add_zero]at c0
    generalize U 0=u at c0 a0
    generalize U 1=u1 at c1 a1
    obtain rfl:n=2:=by simp at hn;omega
    clear hc ha hn
    cases a0
    case str k hk =>
     clear hlist
     have hB:=Lib.hid (((Below.refl _ w).alloc (Nat.le_refl _) (.cells #[.slice (some ⟨b,o,none⟩) 2 cap] 67)).alloc (by simp) (.cells #[.string k] 9))
     have h9:Hid (((w.alloc (.cells #[.slice (some ⟨b,o,none⟩) 2 cap] 67)).alloc (.cells #[.string k] 9)).heap[w.heap.size+1]?=some (.cells #[.string k] 9 (0,0))):=Lib.hid (by
      have h:=heap_alloc_new (w.alloc (Obj.cells #[Value.slice (some { block:=b,off:=o }) 2 cap] 67)) (Obj.cells #[Value.string k] 9)
      simpa using h)
     have h8:Hid (((w.alloc (.cells #[.slice (some ⟨b,o,none⟩) 2 cap] 67)).alloc (.cells #[.string k] 9)).heap[w.heap.size]?=some (.cells #[.slice (some ⟨b,o,none⟩) 2 cap] 67 (0,0))):=Lib.hid ((heap_alloc_old _ _ (by simp)).trans (heap_alloc_new w _))
     have hsz:Hid (((w.alloc (.cells #[.slice (some ⟨b,o,none⟩) 2 cap] 67)).alloc (.cells #[.string k] 9)).heap.size=w.heap.size+2):=Lib.hid (by simp)
     have C1:=Lib.hid c1
     have A1:=Lib.hid a1
     clear c1 a1
     go_enter Tryz.func54,Tryz.ntmps54
     go_wp2
     go_ret2
     refine⟨hB.out,Or.inr ⟨(k,some y),_,rfl,rfl,Or.inr ⟨y,w.heap.size,w.heap.size+1,b,o,cap,u1,rfl,rfl,Or.inr (by omega),Or.inr (Nat.le_refl _),Or.inl hS,by rw[hsz.out];omega,by rw[hsz.out];omega,by rw[hsz.out];omega,h9.out,h8.out,?_,?_⟩⟩⟩
     ·exact(hB.out.cell (p:=⟨b,o+1,none⟩) hb).trans C1.out
     ·exact A1.out.keep (fun _ h _=>Or.inl h) hB.out.size (fun b _ h=>hB.out.block b h)
    all_goals
     have hQ:=Lib.hid (hlist none rfl)
     clear hlist
     go_enter Tryz.func54,Tryz.ntmps54
     go_wp2
     go_ret2
     exact hQ.out _ (((Below.refl _ w).alloc (Nat.le_refl _) _).alloc (by simp) _) trivial _
end Go.Proofs.YtlogjpmdfimgdaaGreatDoor
namespace Go.Own
def chF(g:ByteArray→Option A)(c:Ch):ByteArray→Option A:=fun t=>if t=c.1 then c.2 else g t
end Go.Own
namespace Go.Proofs.YtlogjpmdfimgdaaGreatDoor
open Go.RowKit Go.Own Go.Maps Go.WideMaps
def MapA(w:World)(S:Nat→Prop)(b n:Nat)(g:ByteArray→Option A):Prop :=
 ¬S b∧∃f,MapV w b n f∧∀s,(f s=none∧g s=none)∨∃v a,f s=some v∧g s=some a∧AAt w S v a
theorem MapA.keep{w w':World}{S T:Nat→Prop}{b n:Nat}{g:ByteArray→Option A}(h:MapA w S b n g)(hb:¬T b)(hT:∀k,S k→k<w.heap.size→T k)(hz:w.heap.size≤w'.heap.size)(hk:∀k,S k→k<w.heap.size→w'.heap[k]?=w.heap[k]?)(hm:∀f,MapV w b n f→MapV w' b n f):MapA w' T b n g:=by
 obtain⟨_,f,h1,h2⟩:=h
 refine⟨hb,f,hm f h1,fun s=>?_⟩
 rcases h2 s with h | ⟨v,a,e1,e2,h3⟩
 ·exact Or.inl h
 ·exact Or.inr ⟨v,a,e1,e2,h3.keep hT hz hk⟩
theorem MapA.below{w w':World}{S:Nat→Prop}{b n:Nat}{g:ByteArray→Option A}(h:MapA w S b n g)(hB:Below w.heap.size w w'):MapA w' S b n g :=
 h.keep h.1 (fun _ h _=>h) hB.size (fun k _ hk=>hB.block k hk) (fun _ hm=>hm.below hB)
theorem MapA.lt{w:World}{S:Nat→Prop}{b n:Nat}{g:ByteArray→Option A}(h:MapA w S b n g):b<w.heap.size:=by
 obtain⟨_,f,h1,_⟩:=h
 exact h1.lt
def DoneQ(S:Nat→Prop)(b n:Nat)(g:ByteArray→Option A)(w:World)(e:Ending)(w':World):Prop :=
 e=.returned (.tuple #[])∧MapA w' S b n g∧w.grownBy w' (some b)
theorem done_one{w w':World}{S:Nat→Prop}{b:Nat}{g:ByteArray→Option A}{f:ByteArray→Option Value}(hS:¬S b)(hf:∀s,(f s=none∧g s=none)∨∃v a,f s=some v∧g s=some a∧AAt w S v a)(hg:w.grownBy w' (some b)){c:Ch}{r:Option Value}
  (hr:(r=none∧c.2=none)∨∃v a,r=some v∧c.2=some a∧AAt w S v a) {m:Nat} (hm:MapV w' b m (fun t=>if t=c.1 then r else f t)):MapA w' S b m (chF g c):=by
 have hk:∀k,S k→k<w.heap.size→w'.heap[k]?=w.heap[k]?:=fun k hk hlt=>hg.block k hlt (fun e=>hS (by cases e;exact hk))
 refine⟨hS,_,hm,fun s=>?_⟩
 unfold chF
 by_cases e:s=c.1
 ·rw[if_pos e,if_pos e]
  rcases hr with h | ⟨v,a,e1,e2,h3⟩
  ·exact Or.inl h
  ·exact Or.inr ⟨v,a,e1,e2,h3.keep (fun _ h _=>h) hg.size hk⟩
 ·rw[if_neg e,if_neg e]
  rcases hf s with h | ⟨v,a,e1,e2,h3⟩
  ·exact Or.inl h
  ·exact Or.inr ⟨v,a,e1,e2,h3.keep (fun _ h _=>h) hg.size hk⟩
set_option maxRecDepth 100000 in
theorem gone_any(k:ByteArray)(hk:k.size≤maxLen)(S:Nat→Prop)(b n kb:Nat)(g:ByteArray→Option A)(w:World)(h:MapA w S b n g)(h9:w.heap[kb]?=some (.cells #[.string k] 9 (0,0))) :
  Calls Tryz.prog 78 #[.map (some b),.pointer (some ⟨kb,0,none⟩)] w (DoneQ S b n (chF g (k,none)) w):=by
 obtain⟨hS,f,h1,h2⟩:=h
 obtain⟨w',hrun,h3,h4⟩:=h1.del k hk 0
 have hQ:Hid (DoneQ S b n (chF g (k,none)) w (.returned (.tuple #[])) w'):=Lib.hid ⟨rfl,done_one hS h2 h4 (Or.inl ⟨rfl,rfl⟩) h3,h4⟩
 have c0:=cell_of_one h9
 clear hS h1 h2 h3 h4 h9
 go_enter Tryz.func78,Tryz.ntmps78
 go_wp2
 go_end0
 exact hQ.out
set_option maxRecDepth 100000 in
theorem given_any(k:ByteArray)(hk:k.size≤maxLen)(S:Nat→Prop)(b n lb kb sb off cap:Nat)(v:Value)(a:A)(g:ByteArray→Option A)(w:World)(h:MapA w S b n g)(hn:n<maxLen)(h9:w.heap[kb]?=some (.cells #[.string k] 9 (0,0)))
  (h8:w.heap[lb]?=some (.cells #[.slice (some ⟨sb,off,none⟩) 2 cap] 67 (0,0))) (hc:w.cell? ⟨sb,off+1,none⟩=some v) (ha:AAt w S v a) (_:v.oneCell'=true) :
  Calls Tryz.prog 79 #[.map (some b),.pointer (some ⟨lb,0,none⟩),.pointer (some ⟨kb,0,none⟩)] w (DoneQ S b (n+1) (chF g (k,some a)) w):=by
 obtain⟨W,hW⟩:∃W,w.drew=W:=⟨_,rfl⟩
 have hBW:Below w.heap.size w W:=by subst hW;exact⟨rfl,rfl,rfl,Nat.le_refl _,fun _ _=>rfl⟩
 have hHW:W.heap=w.heap:=by subst hW;rfl
 have h':=h.below hBW
 obtain⟨hS,f,h1,h2⟩:=h'
 obtain⟨w',hrun,h3,h4⟩:=h1.put hn k hk v
 have hQ:Hid (DoneQ S b (n+1) (chF g (k,some a)) w (.returned (.tuple #[])) w'):=Lib.hid ⟨rfl,done_one hS h2 h4 (Or.inr ⟨v,a,rfl,rfl,ha.keep (fun _ h _=>h) hBW.size (fun b _ h=>hBW.block b h)⟩) h3,
  ⟨h4.os.trans hBW.os,h4.tape.trans hBW.tape,h4.output.trans hBW.output,by have:=h4.size;rw[hHW]at this;exact this,fun i hi hne=>(h4.block i (by rw[hHW];exact hi) hne).trans (by rw[hHW])⟩⟩
 have c0:=cell_of_one (h9.symm▸congrArg (·[kb]?) hHW:W.heap[kb]?=some (.cells #[.string k] 9 (0,0)))
 have c1:=cell_of_one (h8.symm▸congrArg (·[lb]?) hHW:W.heap[lb]?=some (.cells #[.slice (some ⟨sb,off,none⟩) 2 cap] 67 (0,0)))
 have c2:W.cell? ⟨sb,off+1,none⟩=some v:=by rw[←hc];unfold World.cell?;rw[hHW]
 clear hS h1 h2 h3 h4 h9 h8 ha h hBW hHW hc
 go_enter Tryz.func79,Tryz.ntmps79
 go_wp2
 refine wp_region_still_tail 5 (by kernel_rfl) (by kernel_rfl) ?_
 simp only[List.take_succ_cons,List.take_zero,List.drop_succ_cons,List.drop_zero]
 change wpStill _ _ w.drew _ _ _
 rw[hW]
 repeat (first | still_step)
 refine wpStill_nil ?_
 change wpList _ _ _ _ _ w.drew
 rw[hW]
 clear hW
 go_wp2
 go_end0
 exact hQ.out
theorem one_any(cv:Value)(c:Ch)(hk:c.1.size≤maxLen)(S T:Nat→Prop)(b n:Nat)(g:ByteArray→Option A)(w:World)(h:MapA w S b n g)(hn:n<maxLen)(ho:OneAt w T cv c)(hT:∀k,T k→S k) :
  (∃kb,cv=.func (.func 78) #[] #[.pointer (some ⟨kb,0,none⟩)]∧Calls Tryz.prog 78 #[.map (some b),.pointer (some ⟨kb,0,none⟩)] w (DoneQ S b (n+1) (chF g c) w)) ∨
  (∃lb kb,cv=.func (.func 79) #[] #[.pointer (some ⟨lb,0,none⟩),.pointer (some ⟨kb,0,none⟩)]∧Calls Tryz.prog 79 #[.map (some b),.pointer (some ⟨lb,0,none⟩),.pointer (some ⟨kb,0,none⟩)] w (DoneQ S b (n+1) (chF g c) w)):=by
 obtain⟨k,r⟩:=c
 rcases ho with⟨h0,kb,h1,h2,h3,h4⟩ | ⟨a,lb,kb,sb,off,cap,v,h0,h1,h2,h3,h4,h5,h6,h7,h8,h9,h10,h11⟩
 ·simp only at h0
  subst h0
  exact Or.inl ⟨kb,h1,(gone_any k hk S b n kb g w h h4).mono fun e w' ⟨e1,⟨m1,f,m2,m3⟩,e3⟩=>⟨e1,⟨m1,f,m2.mono (Nat.le_succ _),m3⟩,e3⟩⟩
 ·simp only at h0
  subst h0
  have h12:=h11.keep (T:=S) (fun k hk _=>hT k hk) (Nat.le_refl _) (fun _ _ _=>rfl)
  exact Or.inr ⟨lb,kb,h1,given_any k hk S b n lb kb sb off cap v a g w h hn h8 h9 h10 h12 h12.one⟩
def AllAt(w:World)(T:Nat→Prop)(cv:Value)(cs:List Ch):Prop :=
 ∃ab p cap,cv=.func (.func 55) #[] #[.pointer (some ⟨ab,0,none⟩)]∧T ab∧ab<w.heap.size∧w.heap[ab]?=some (.cells #[.slice p cs.length cap] 125 (0,0))∧cs.length≤cap ∧
  ∀j c,cs[j]?=some c→∃rb off u,p=some ⟨rb,off,none⟩∧T rb∧rb<w.heap.size∧w.cell? ⟨rb,off+j,none⟩=some u∧OneAt w T u c
theorem AllAt.keep{w w':World}{S T:Nat→Prop}{cv:Value}{cs:List Ch}(h:AllAt w S cv cs)(hT:∀b,S b→b<w.heap.size→T b)(hz:w.heap.size≤w'.heap.size)(hk:∀b,S b→b<w.heap.size→w'.heap[b]?=w.heap[b]?):AllAt w' T cv cs:=by
 obtain⟨ab,p,cap,h1,h2,h3,h4,h5,h6⟩:=h
 refine⟨ab,p,cap,h1,hT _ h2 h3,by omega,(hk _ h2 h3).trans h4,h5,fun j c hc=>?_⟩
 obtain⟨rb,off,u,e1,e2,e3,e4,e5⟩:=h6 j c hc
 exact⟨rb,off,u,e1,hT _ e2 e3,by omega,(World.cell?_of_block (w:=w) (hk _ e2 e3)).trans e4,e5.keep hT hz hk⟩
theorem foldl_take_succ{α β:Type}(f:β→α→β)(b:β)(l:List α)(j:Nat)(x:α)(h:l[j]?=some x):(l.take (j+1)).foldl f b=f ((l.take j).foldl f b) x:=by
 rw[List.take_add_one,h,List.foldl_append]
 rfl
set_option maxRecDepth 100000 in
set_option maxHeartbeats 2000000 in
theorem doAll_any(ab:Nat)(cs:List Ch)(hcs:cs.length≤1000)(hk:∀c∈cs,c.1.size≤maxLen)(S T:Nat→Prop)(hTS:∀k,T k→S k)(b n:Nat)(hn:n≤1000000)(g:ByteArray→Option A)(w:World)(h:MapA w S b n g)(ha:AllAt w T (.func (.func 55) #[] #[.pointer (some ⟨ab,0,none⟩)]) cs) :
  Calls Tryz.prog 55 #[.map (some b),.pointer (some ⟨ab,0,none⟩)] w (DoneQ S b (n+cs.length) (cs.foldl chF g) w):=by
 obtain⟨ab',p,cap,e0,h2,h3,h4,h5,h6⟩:=ha
 obtain rfl:ab=ab':=by simpa using e0
 have c0:=cell_of_one h4
 have hnb:=h.1
 obtain⟨m,hm⟩:∃m,cs.length=m:=⟨_,rfl⟩
 rw[hm]at c0 h5 hcs
 have H6:=Lib.hid h6
 have HH:=Lib.hid h
 have HM:=Lib.hid hm
 have hmax:1001000≤maxLen:=by unfold maxLen;omega
 clear e0 h2 h3 h4 h6 h hm
 go_enter Tryz.func55,Tryz.ntmps55
 go_wp2
 go_loopw [7] (fun i wr=>∃j:Nat,j≤m∧i=.int .i64 (j:Int)∧Hid (MapA wr S b (n+j) ((cs.take j).foldl chF g))∧Hid (w.grownBy wr (some b))) (fun i _=>m-(intOf i).toNat)
 case atStart=>exact⟨0,Nat.zero_le _,rfl,HH,Lib.hid ⟨rfl,rfl,rfl,Nat.le_refl _,fun _ _ _=>rfl⟩⟩
 case round =>
  obtain⟨j,hj,rfl,hM,hG⟩:=hrel
  by_cases hlt:j<m
  ·have hlti:(j:Int)<(m:Int):=by omega
   obtain⟨c,hc⟩:∃c,cs[j]?=some c:=⟨cs[j]'(by have:=HM.out;omega),List.getElem?_eq_getElem _⟩
   obtain⟨rb,off,u,rfl,e2,e3,e4,e5⟩:=H6.out j c hc
   have hkeep:∀k,T k→k<w.heap.size→wr.heap[k]?=w.heap[k]?:=fun k hk hlt=>hG.out.block k hlt (fun e=>by cases e;exact hnb (hTS _ hk))
   have cu:wr.cell? ⟨rb,off+j,none⟩=some u:=(World.cell?_of_block (w:=w) (hkeep _ e2 e3)).trans e4
   have hO:=e5.keep (T:=T) (fun _ h _=>h) hG.out.size hkeep
   have hfold:=foldl_take_succ chF g cs j c hc
   have hjl:j<cap:=by omega
   clear e4 e5
   rcases one_any u c (hk c (List.mem_of_getElem? hc)) S T b (n+j) _ wr hM.out (by omega) hO hTS with⟨kb,rfl,hcall⟩ | ⟨lb,kb,rfl,hcall⟩
   all_goals
    rw[←hfold]at hcall
    have hcall:=Lib.hid hcall
    clear hfold hO
    go_wp2_with fail
    refine hcall.out.mono ?_
    rintro e w' ⟨rfl,hM2,hG2⟩
    have hM3:=Lib.hid hM2
    have hG3:=Lib.hid (hG.out.andThen hG2 (fun j hj=>Or.inr hj))
    clear hM2 hG2 hcall
    go_wp2
    go_roundw
    case rel=>exact⟨j+1,by omega,by go_num,hM3,hG3⟩
    case measure=>simp[intOf];omega
  ·obtain rfl:j=m:=by omega
   have hQ:Hid (DoneQ S b (n+cs.length) (cs.foldl chF g) w (.returned (.tuple #[])) wr):=Lib.hid ⟨rfl,by
    have:=hM.out
    rw[List.take_of_length_le (by rw[HM.out];exact Nat.le_refl _)]at this
    rw[HM.out]
    exact this,hG.out⟩
   have hlti:¬(j:Int)<(j:Int):=by omega
   go_wp2
   go_end0
   exact hQ.out
end Go.Proofs.YtlogjpmdfimgdaaGreatDoor
namespace Go.Own
def chsOf:List A→Option (List Ch)
 | []=>some []
 |x :: r=>match chOf x,chsOf r with
  |some c,some cs=>some (c :: cs)
  |_,_=>none
def trOf(t:List Nat):Option (List Ch):=match pa t with
 |some (.list l)=>chsOf l
 |_=>none
theorem chsOf_some:∀(l:List A) (cs:List Ch),cs.length=l.length→(∀(j:Nat) (x:A),l[j]?=some x→chOf x=cs[j]?)→chsOf l=some cs
 | [],[],_,_=>rfl
 | [],c :: cs,h,_=>by simp at h
 |x :: r,[],h,_=>by simp at h
 |x :: r,c :: cs,h,hc=>by
  have h0:=hc 0 x rfl
  have h1:=chsOf_some r cs (by simpa using h) (fun j y hy=>by simpa using hc (j+1) y (by simpa using hy))
  unfold chsOf
  rw[h0,h1]
  rfl
theorem chsOf_none:∀(l:List A) (j:Nat) (x:A),l[j]?=some x→chOf x=none→chsOf l=none
 | [],j,x,h,_=>by simp at h
 |y :: r,0,x,h,hx=>by
  simp at h
  subst h
  unfold chsOf
  rw[hx]
 |y :: r,j+1,x,h,hx=>by
  have h1:=chsOf_none r j x (by simpa using h) hx
  unfold chsOf
  rw[h1]
  cases chOf y <;> rfl
end Go.Own
namespace Go.Proofs.YtlogjpmdfimgdaaGreatDoor
open Go.RowKit Go.Own Go.Maps Go.WideMaps
theorem info92:(Tryz.prog.info? 92).map (fun i=>(i.zero,i.size,i.bytes))=some (some .nilFunc,1,8):=by kernel_rfl
def ReadTQ(r:Option (List Ch))(w:World)(e:Ending)(w':World):Prop :=
 Below w.heap.size w w'∧((r=none∧∃v,e=.returned (.tuple #[v,.bool false]))∨∃cs cv,r=some cs∧e=.returned (.tuple #[cv,.bool true])∧AllAt w' (fun b=>w.heap.size≤b) cv cs)
theorem OneAt.shape{w:World}{S:Nat→Prop}{cv:Value}{c:Ch}(h:OneAt w S cv c):(∃k,cv=.func (.func 78) #[] #[.pointer (some ⟨k,0,none⟩)])∨∃k m,cv=.func (.func 79) #[] #[.pointer (some ⟨k,0,none⟩),.pointer (some ⟨m,0,none⟩)]:=by
 rcases h with⟨_,kb,e,_⟩ | ⟨a,lb,kb,sb,off,cap,v,_,e,_⟩
 ·exact Or.inl ⟨kb,e⟩
 ·exact Or.inr ⟨lb,kb,e⟩
theorem fn_one(u:Value)(h:u.oneCell'=true):∀x∈[u],x.oneCell'=true:=fun x hx=>by
 simp at hx;subst hx;exact h
theorem OneAt.one{w:World}{S:Nat→Prop}{cv:Value}{c:Ch}(h:OneAt w S cv c):cv.oneCell'=true:=by
 rcases h with⟨_,kb,rfl,_⟩ | ⟨a,lb,kb,sb,off,cap,v,_,rfl,_⟩ <;> rfl
theorem aat_row{w:World}{S:Nat→Prop}{v:Value}{l:List A}(h:AAt w S v (.list l)):∃p cap,v=.iface 67 (.slice p l.length cap)∧l.length≤cap ∧
  ∀j x,l[j]?=some x→∃b o u,p=some ⟨b,o,none⟩∧S b∧b<w.heap.size∧w.cell? ⟨b,o+j,none⟩=some u∧AAt w S u x:=by
 cases h with
 |nil=>exact⟨none,0,rfl,Nat.le_refl _,fun j x hx=>by simp at hx⟩
 |list b o n cap _ U hn hS hb hle hm hc ha =>
  subst hn
  exact⟨some ⟨b,o,none⟩,cap,rfl,hle,fun j x hx=>⟨b,o,U j,rfl,hS,hb,hc j x hx,ha j x hx⟩⟩
theorem long_list{t:List Nat}(hb:∀c∈t,c<256){l:List A}(h:pa t=some (.list l)):l.length≤255:=by
 have h1:=(pa_was hb h).2.1
 unfold er at h1
 split at h1
 ·cases h1
 ·omega
def Row(w wr:World)(ab g n:Nat)(l:List A)(j:Nat):Prop :=
 ∃(us:List Value) (cs:List Ch),us.length=j∧cs.length=j∧wr.ownsRow w.heap.size 92 1 (.slice (some ⟨g,0,none⟩) j n) j us∧wr.heap[ab]?=some (.cells #[.slice (some ⟨g,0,none⟩) j n] 125 (0,0)) ∧
  (∀(i:Nat) (x:A),i<j→l[i]?=some x→chOf x=cs[i]?)∧∀(i:Nat) (u:Value) (c:Ch),us[i]?=some u→cs[i]?=some c→OneAt wr (fun b=>w.heap.size≤b∧b≠ab∧b≠g) u c
theorem grownBy_setC(W:World)(b:Nat)(v:Value):W.grownBy (W.setCell ⟨b,0,none⟩ v) (some b) :=
 ⟨rfl,rfl,rfl,by simp,fun i _ hi=>heap_setCell_other W ⟨b,0,none⟩ i v (fun e=>hi (by rw[e]))⟩
theorem row_step{w wr w3 w4:World}{ab g n:Nat}{l:List A}{j:Nat}{us:List Value}{cs:List Ch}{cv:Value}{x:A}{c:Ch}{o:Obj}(r1:us.length=j)(r2:cs.length=j)
  (r4:wr.heap[ab]?=some (.cells #[.slice (some ⟨g,0,none⟩) j n] 125 (0,0))) (r5:∀(i:Nat) (x:A),i<j→l[i]?=some x→chOf x=cs[i]?)
  (r6:∀(i:Nat) (u:Value) (c:Ch),us[i]?=some u→cs[i]?=some c→OneAt wr (fun b=>w.heap.size≤b∧b≠ab∧b≠g) u c) (hwr:w.heap.size≤wr.heap.size) (hgl:g<wr.heap.size) (hga:g<ab)
  (hB3:Below wr.heap.size wr w3) (hO:OneAt w3 (fun b=>(w.heap.size≤b∧b≠ab∧b≠g)∨wr.heap.size≤b) cv c) (hc:chOf x=some c) (hx:l[j]?=some x)
  (hO4:w4.ownsRow w.heap.size 92 1 (.slice (some ⟨g,0,none⟩) (j+1) n) (j+1) (us++[cv])) (hG4:(w3.alloc o).grownBy w4 (some g)) :
  Row w (w4.setCell ⟨ab,0,none⟩ (.slice (some ⟨g,0,none⟩) (j+1) n)) ab g n l (j+1)∧Below g wr (w4.setCell ⟨ab,0,none⟩ (.slice (some ⟨g,0,none⟩) (j+1) n)):=by
 have hab:ab<wr.heap.size:=(Array.getElem?_eq_some_iff.1 r4).1
 have hz3:=hB3.size
 have hz4:=hG4.size
 rw[show (w3.alloc o).heap.size=w3.heap.size+1 by simp]at hz4
 have hk4:∀k,k<w3.heap.size→k≠g→w4.heap[k]?=w3.heap[k]?:=fun k hk hne=>(hG4.block k (by simp;omega) (fun e=>hne (by cases e;rfl))).trans (heap_alloc_old _ _ hk)
 have h4ab:w4.heap[ab]?=some (.cells #[.slice (some ⟨g,0,none⟩) j n] 125 (0,0)):=(hk4 ab (by omega) (by omega)).trans ((hB3.block ab hab).trans r4)
 have hk5:∀k,k<w3.heap.size→k≠g→k≠ab→(w4.setCell ⟨ab,0,none⟩ (.slice (some ⟨g,0,none⟩) (j+1) n)).heap[k]?=w3.heap[k]?:=fun k hk h1 h2=>(heap_setCell_other w4 ⟨ab,0,none⟩ k _ h2).trans (hk4 k hk h1)
 have hkO:∀ {u c},OneAt w3 (fun b=>w.heap.size≤b∧b≠ab∧b≠g) u c→OneAt (w4.setCell ⟨ab,0,none⟩ (.slice (some ⟨g,0,none⟩) (j+1) n)) (fun b=>w.heap.size≤b∧b≠ab∧b≠g) u c:=fun {u c} h =>
  h.keep (fun _ h _=>h) (by simp;omega) (fun b hb hlt=>hk5 b hlt hb.2.2 hb.2.1)
 refine⟨⟨us++[cv],cs++[c],by simp[r1],by simp[r2],?_,one_setCell h4ab,fun i y hi hy=>?_,fun i u c' hu hcs=>?_⟩,?_⟩
 ·exact hO4.kept (grownBy_setC w4 ab _) (Or.inr fun e=>by simp[Value.ownBlock]at e;omega)
 ·by_cases e:i=j
  ·subst e
   rw[hx]at hy
   cases hy
   rw[hc,List.getElem?_append_right (by omega),r2,Nat.sub_self]
   rfl
  ·rw[r5 i y (by omega) hy,List.getElem?_append_left (by omega)]
 ·by_cases e:i<j
  ·rw[List.getElem?_append_left (by omega)]at hu hcs
   have h1:=r6 i u c' hu hcs
   exact hkO (h1.keep (fun _ h _=>h) hz3 (fun b _ hlt=>hB3.block b hlt))
  ·have hi:i=j:=by
    have:=(List.getElem?_eq_some_iff.1 hu).1
    simp[r1]at this
    omega
   subst hi
   rw[List.getElem?_append_right (by omega),r1,Nat.sub_self]at hu
   rw[List.getElem?_append_right (by omega),r2,Nat.sub_self]at hcs
   simp at hu hcs
   subst hu hcs
   exact hkO (hO.keep (fun b hb _=>by rcases hb with h | h;exact h;exact⟨by omega,by omega,by omega⟩) (Nat.le_refl _) (fun _ _ _=>rfl))
 ·refine⟨?_,?_,?_,by simp;omega,fun k hk=>?_⟩
  ·exact hG4.os.trans hB3.os
  ·exact hG4.tape.trans hB3.tape
  ·exact hG4.output.trans hB3.output
  ·rw[hk5 k (by omega) (by omega) (by omega)]
   exact hB3.block k (by omega)
set_option maxRecDepth 100000 in
set_option maxHeartbeats 4000000 in
theorem readT_any(t:List Nat)(hb8:∀c∈t,c<256)(w:World):Calls Tryz.prog 33 #[.string (mkS t)] w (ReadTQ (trOf t) w):=by
 have HP:=Lib.hid (parse_any t hb8 w)
 have hLG:=Lib.hid (fun l=>long_list hb8 (l:=l))
 have hT0:Hid (trOf t=match pa t with
  |some (.list l)=>chsOf l
  |_=>none):=Lib.hid rfl
 generalize trOf t=r at *
 generalize pa t=q at *
 generalize mkS t=s at *
 clear hb8
 unfold ParseQ at HP
 obtain⟨i92,hi92,hz92,hs92,hy92⟩:=info_parts info92
 have hno:Hid (∀w',Below w.heap.size w w'→r=none→∀v,ReadTQ r w (.returned (.tuple #[v,.bool false])) w'):=Lib.hid fun w' hB h0 v=>⟨hB,Or.inl ⟨h0,v,rfl⟩⟩
 go_enter Tryz.func33,Tryz.ntmps33
 go_wp2_with (go_at_call 53;fail)
 refine HP.out.mono ?_
 rintro e w1 (⟨a,v,rfl,rfl,hv,hB1⟩ | ⟨rfl,rfl,hB1⟩)
 case inr =>
  have hB1:=Lib.hid hB1
  clear HP
  go_wp2
  go_ret2
  exact hno.out _ hB1.out hT0.out _
 rcases a_cases a with hn | ⟨l,rfl⟩
 ·have h0:Hid (r=none):=Lib.hid (by rw[hT0.out];cases a <;> first | rfl | exact absurd rfl (hn _))
  have hB1:=Lib.hid hB1
  clear HP hT0
  cases hv
  case list=>exact absurd rfl (hn _)
  case nil=>exact absurd rfl (hn _)
  all_goals
   clear hn
   go_wp2
   go_ret2
   exact hno.out _ hB1.out h0.out _
 obtain⟨p,cap,rfl,hcap,hrow⟩:=aat_row hv
 have hl255:=hLG.out l rfl
 obtain⟨n,hn⟩:∃n,l.length=n:=⟨_,rfl⟩
 rw[hn]at hcap hl255
 have HN:=Lib.hid hn
 have HRW:=Lib.hid hrow
 have HB1:=Lib.hid hB1
 rw[hn]
 clear HP hLG hv hn hrow hB1
 go_wp2_with (first | (at_make;refine wpList_make_own w1 rfl _ _ 125 rfl w.heap.size 92 i92 .nilFunc 1 Tryz.underlying125 hi92 hz92 hs92 _ _ (n:Int) n rfl rfl rfl (by rw[hy92];omega) (by unfold maxLen;omega) HB1.out.size ?_;intro w2 hO2 hB2) | go_in)
 obtain⟨g,hg⟩:∃g,w1.heap.size=g:=⟨_,rfl⟩
 obtain⟨ab,hab⟩:∃ab,w2.heap.size=ab:=⟨_,rfl⟩
 rw[hg]at hO2
 obtain⟨W,hW⟩:∃W,w2.alloc (.cells #[.slice (some ⟨g,0,none⟩) 0 n] 125)=W:=⟨_,rfl⟩
 have hB12:Below w1.heap.size w1 w2:=⟨hB2.os,hB2.tape,hB2.output,hB2.size,fun k hk=>hB2.block k hk (by simp)⟩
 have hgl:g<w2.heap.size:=(hO2.lt g rfl).2
 have hB1W:Hid (Below w1.heap.size w1 W):=Lib.hid (hW▸hB12.alloc hB12.size _)
 have hBW:Hid (Below w.heap.size w W):=Lib.hid (HB1.out.trans (hB1W.out.mono HB1.out.size))
 have hgb:g<ab:=by omega
 have hwg:w.heap.size≤g:=by have:=HB1.out.size;omega
 have hR0:Hid (Row w W ab g n l 0):=Lib.hid ⟨[],[],rfl,rfl,hW▸hO2.alloc _,by rw[←hW,←hab];exact heap_alloc_new w2 _,fun i x hi=>absurd hi (Nat.not_lt_zero i),fun i u c hu=>by simp at hu⟩
 clear hO2 hB12 hgl
 try rw[hg]
 try rw[hab]
 try rw[hW]
 try go_frame
 clear hB2
 go_loopw [30] (fun i wr=>∃j:Nat,j≤n∧i=.int .i64 (j:Int)∧Hid (Row w wr ab g n l j)∧Hid (Below w.heap.size w wr)∧Hid (Below w1.heap.size w1 wr)) (fun i _=>n-(intOf i).toNat)
 case atStart=>exact⟨0,Nat.zero_le _,rfl,hR0,hBW,hB1W⟩
 case round =>
  obtain⟨j,hj,rfl,hR,hBr,hB1r⟩:=hrel
  by_cases hlt:j<n
  ·have hlti:(j:Int)<(n:Int):=by omega
   obtain⟨x,hx⟩:∃x,l[j]?=some x:=⟨l[j]'(by have:=HN.out;omega),List.getElem?_eq_getElem _⟩
   obtain⟨b,o,u,rfl,e1,e2,e3,e4⟩:=HRW.out j x hx
   have cu:wr.cell? ⟨b,o+j,none⟩=some u:=(hB1r.out.cell (p:=⟨b,o+j,none⟩) e2).trans e3
   have hA:=e4.keep (w':=wr) (T:=fun b=>w.heap.size≤b∧b≠ab∧b≠g) (fun b hb hlt=>⟨hb,by omega,by omega⟩) hB1r.out.size (fun b _ hlt=>hB1r.out.block b hlt)
   have hcall:=Lib.hid (readOne_any x _ u wr hA)
   have hjc:j<cap:=by omega
   clear e1 e2 e3 e4 hA
   go_wp2_with fail
   refine hcall.out.mono ?_
   rintro e w3 ⟨hB3,⟨h0,v0,rfl⟩ | ⟨c,cv,hc,rfl,hO⟩⟩
   ·have hr0:Hid (r=none):=Lib.hid (by rw[hT0.out];exact chsOf_none l j x hx h0)
    have hB4:=Lib.hid (hBr.out.trans (hB3.mono hBr.out.size))
    clear hcall hB3 h0
    go_wp2
    go_ret2
    exact hno.out _ hB4.out hr0.out _
   ·obtain⟨us,cs,r1,r2,r3,r4,r5,r6⟩:=hR.out
    have c4:=cell_of_one ((hB3.block ab (Array.getElem?_eq_some_iff.1 r4).1).trans r4)
    have r3':=own_kept r3 hB3
    have hw3:w.heap.size≤w3.heap.size:=Nat.le_trans hBr.out.size hB3.size
    have huo:=hO.one
    have HB3:=Lib.hid hB3
    have HO:=Lib.hid hO
    have R:=Lib.hid hR.out
    have hgl:g<wr.heap.size:=(r3.lt g rfl).2
    have HC5:Hid (∀(o:Obj) (w4:World),(w3.alloc o).grownBy w4 (some g)→w4.cell? ⟨ab,0,none⟩=some (.slice (some ⟨g,0,none⟩) j n)∧w4.frozen? ⟨ab,0,none⟩=false):=Lib.hid fun o w4 hG=>by
     have hal:ab<w3.heap.size:=Nat.lt_of_lt_of_le (Array.getElem?_eq_some_iff.1 r4).1 hB3.size
     have hh:=(hG.block ab (by simp;omega) (fun e=>by cases e;omega)).trans ((heap_alloc_old _ _ hal).trans ((hB3.block ab (Array.getElem?_eq_some_iff.1 r4).1).trans r4))
     exact⟨cell_of_one hh,by simp[World.frozen?,hh]⟩
    have HST:Hid (∀(o:Obj) (w4:World),w4.ownsRow w.heap.size 92 1 (.slice (some ⟨g,0,none⟩) (j+1) n) (j+1) (us++[cv])→(w3.alloc o).grownBy w4 (some g)→Row w (w4.setCell ⟨ab,0,none⟩ (.slice (some ⟨g,0,none⟩) (j+1) n)) ab g n l (j+1)∧Below g wr (w4.setCell ⟨ab,0,none⟩ (.slice (some ⟨g,0,none⟩) (j+1) n))) :=
     Lib.hid fun o w4 h1 h2=>row_step r1 r2 r4 r5 r6 hBr.out.size hgl hgb hB3 hO hc hx h1 h2
    clear hcall hB3 hO hR r1 r2 r3 r4 r5 r6 R HB3
    rcases HO.out.shape with⟨k1,rfl⟩ | ⟨k1,k2,rfl⟩
    all_goals
     go_wp2_with (first | (at_builtin;refine wpList_append_fits (w3.alloc (.cells #[_] 92)) rfl (.tmp 41) (.tmp 43) 125 rfl w.heap.size 92 i92 1 Tryz.underlying125 hi92 hs92 g j n us rfl (r3'.alloc _) ⟨w3.heap.size,0,none⟩ 1 1 [_] rfl rfl (one_new _ _ _) (fn_one _ huo) (by omega) ?_;intro w4 hO4 hG4;have c5:=(HC5.out _ w4 hG4).1;have f5:=(HC5.out _ w4 hG4).2;have hST:=Lib.hid (HST.out _ w4 hO4 hG4);clear hO4 hG4) | go_in)
     go_roundw
     case rel=>exact⟨j+1,by omega,by go_num,Lib.hid hST.out.1,Lib.hid (hBr.out.trans (hST.out.2.mono hwg)),Lib.hid (hB1r.out.trans (hST.out.2.mono (by omega)))⟩
     case measure=>simp[intOf];omega
  ·obtain rfl:j=n:=by omega
   have hlti:¬(j:Int)<(j:Int):=by omega
   obtain⟨us,cs,r1,r2,r3,r4,r5,r6⟩:=hR.out
   have hA:AllAt wr (fun b=>w.heap.size≤b) (.func (.func 55) #[] #[.pointer (some ⟨ab,0,none⟩)]) cs:=by
    refine⟨ab,_,j,rfl,by omega,(Array.getElem?_eq_some_iff.1 r4).1,by rw[r2];exact r4,by omega,fun i c hc=>?_⟩
    have hi:i<us.length:=by have:=(List.getElem?_eq_some_iff.1 hc).1;omega
    have hu:=List.getElem?_eq_getElem hi
    refine⟨g,0,_,rfl,hwg,(r3.lt g rfl).2,?_,(r6 i _ c hu hc).keep (fun b hb _=>hb.1) (Nat.le_refl _) (fun _ _ _=>rfl)⟩
    have:=r3.cells (g:=g) rfl i _ hu
    rw[hadd]at this
    exact this
   have hr:r=some cs:=by rw[hT0.out];exact chsOf_some l cs (by rw[r2,HN.out]) (fun i x hx=>r5 i x (by have:=(List.getElem?_eq_some_iff.1 hx).1;have:=HN.out;omega) hx)
   have hQ:Hid (ReadTQ r w (.returned (.tuple #[.func (.func 55) #[] #[.pointer (some ⟨ab,0,none⟩)],.bool true])) wr):=Lib.hid ⟨hBr.out,Or.inr ⟨cs,_,hr,rfl,hA⟩⟩
   clear hR r1 r2 r3 r4 r5 r6 hA hr
   go_wp2
   go_ret2
   exact hQ.out
end Go.Proofs.YtlogjpmdfimgdaaGreatDoor
namespace Go.Own
def RisesA(g:ByteArray→Option A)(p:ByteArray→Bool)(ks:List ByteArray):Prop :=
 ks.Pairwise (fun a b=>a.data.toList<b.data.toList)∧∀s,s∈ks↔((g s).isSome=true∧p s=true)
theorem RisesA.unique{g:ByteArray→Option A}{p:ByteArray→Bool}{l m:List ByteArray}(h:RisesA g p l)(k:RisesA g p m):l=m:=by
 refine Rises.unique (f:=fun s=>(g s).map fun _=>.nilIface) (p:=p) ⟨h.1,fun s=>?_⟩ ⟨k.1,fun s=>?_⟩
 ·rw[h.2 s,show ((g s).map fun _=>Value.nilIface).isSome=(g s).isSome by cases g s <;> rfl]
 ·rw[k.2 s,show ((g s).map fun _=>Value.nilIface).isSome=(g s).isSome by cases g s <;> rfl]
end Go.Own
namespace Go.Proofs.YtlogjpmdfimgdaaGreatDoor
open Go.RowKit Go.Own Go.Maps Go.WideMaps
def SAt(w:World)(sb:Nat)(jp:Option Addr)(b:Nat):Prop:=sb<w.heap.size∧w.heap[sb]?=some (.cells #[.pointer jp,.map (some b)] 86 (0,0))
theorem cells2{w:World}{b:Nat}{x y:Value}{t:TypeId}(h:w.heap[b]?=some (.cells #[x,y] t (0,0))):w.cell? ⟨b,0,none⟩=some x∧w.cell? ⟨b,1,none⟩=some y:=by
 unfold World.cell?
 simp[h]
theorem rises_A{f:ByteArray→Option Value}{g:ByteArray→Option A}{p:ByteArray→Bool}{ks:List ByteArray}{w:World}{S:Nat→Prop}(hf:∀s,(f s=none∧g s=none)∨∃v a,f s=some v∧g s=some a∧AAt w S v a)(h:Rises f p ks):RisesA g p ks :=
 ⟨h.1,fun s=>by
  rw[h.2 s]
  rcases hf s with⟨e1,e2⟩ | ⟨v,a,e1,e2,_⟩
  ·rw[e1,e2];simp
  ·rw[e1,e2];simp⟩
def GetQ(r:Option A)(w:World)(e:Ending)(w':World):Prop :=
 ∃v,e=.returned (.tuple #[v,.bool r.isSome])∧(∀a,r=some a→Has w' v a)∧Below w.heap.size w w'
set_option maxRecDepth 100000 in
set_option maxHeartbeats 1000000 in
theorem get_any(k:ByteArray)(hk:k.size≤maxLen)(sb b n:Nat)(jp:Option Addr)(S:Nat→Prop)(g:ByteArray→Option A)(w:World)(hs:SAt w sb jp b)(h:MapA w S b n g)(hsm:∀a,g k=some a→smA a) :
  Calls Tryz.prog 18 #[.pointer (some ⟨sb,0,none⟩),.string k] w (GetQ (g k) w):=by
 obtain⟨_,f,hm,hf⟩:=h
 obtain⟨c0,c1⟩:=cells2 hs.2
 obtain⟨hlk,_⟩:=hm.look k hk
 have hI:Ints w (.slice none 0 0) []:=⟨none,0,rfl,Nat.zero_le _,fun j z hz=>by simp at hz⟩
 rcases hf k with⟨e1,e2⟩ | ⟨v,a,e1,e2,hv⟩
 ·have HL:=Lib.hid (list_any .none [] .nilIface (.slice none 0 0) w sm_none .none hI)
  rw[e1]at hlk
  rw[e2]
  have hlk':(Instr.lookup 84 (.map (some b)) (.string k) true).run Tryz.prog w=.ok (.tuple #[.nilIface,.bool false]) w:=hlk
  clear hm hf hs hsm hlk e1 e2 hI
  go_enter Tryz.func18,Tryz.ntmps18
  go_wp2_with (go_at_call 38;fail)
  refine HL.out.mono ?_
  rintro e w' ⟨p,c,rfl,hA,hB⟩
  have hQ:Hid (GetQ none w (.returned (.tuple #[.nilIface,.bool false])) w'):=Lib.hid ⟨_,rfl,(fun a h=>by cases h),hB⟩
  have e9:(fList (cm .none [])).2=9:=rfl
  rw[e9]
  clear hA hB
  go_wp2
  go_ret2
  exact hQ.out
 ·have HL:=Lib.hid (list_any a [] v (.slice none 0 0) w (hsm a e2) hv.has hI)
  rw[e1]at hlk
  rw[e2]
  have hlk':(Instr.lookup 84 (.map (some b)) (.string k) true).run Tryz.prog w=.ok (.tuple #[v,.bool true]) w:=hlk
  have HV:=Lib.hid hv.has
  clear hm hf hs hsm hlk e1 e2 hI hv
  rcases a_cases a with hn | ⟨l,rfl⟩
  ·have e9:fList (cm a [])=([],9):=fList_other hn
   rw[e9]at HL
   go_enter Tryz.func18,Tryz.ntmps18
   go_wp2_with (go_at_call 38;fail)
   refine HL.out.mono ?_
   rintro e w' ⟨p,c,rfl,hA,hB⟩
   have hQ:Hid (GetQ (some a) w (.returned (.tuple #[v,.bool true])) w'):=Lib.hid ⟨_,rfl,(fun a' h=>by cases h;exact HV.out.below hB),hB⟩
   clear hA hB
   go_wp2
   go_ret2
   exact hQ.out
  ·have e0:fList (cm (.list l) [])=(l,0):=rfl
   rw[e0]at HL
   go_enter Tryz.func18,Tryz.ntmps18
   go_wp2_with (go_at_call 38;fail)
   refine HL.out.mono ?_
   rintro e w' ⟨p,c,rfl,hA,hB⟩
   have hQ:Hid (GetQ (some (.list l)) w (.returned (.tuple #[.iface 67 (.slice p l.length c),.bool true])) w'):=Lib.hid ⟨_,rfl,(fun a' h=>by cases h;exact hA.has),hB⟩
   clear hA hB
   go_wp2
   go_ret2
   exact hQ.out
end Go.Proofs.YtlogjpmdfimgdaaGreatDoor
namespace Go.Proofs.YtlogjpmdfimgdaaGreatDoor
open Go.RowKit Go.Own Go.Maps Go.WideMaps
structure Ext(w w':World):Prop where
 os:w'.os=w.os
 tape:w'.tape=w.tape
 output:w'.output=w.output
 size:w.heap.size≤w'.heap.size
theorem Ext.refl(w:World):Ext w w:=⟨rfl,rfl,rfl,Nat.le_refl _⟩
theorem Ext.trans{a b c:World}(h:Ext a b)(k:Ext b c):Ext a c:=⟨k.os.trans h.os,k.tape.trans h.tape,k.output.trans h.output,Nat.le_trans h.size k.size⟩
theorem ext_below{w w':World}{B:Nat}(h:Below B w w'):Ext w w':=⟨h.os,h.tape,h.output,h.size⟩
theorem ext_grown{w w':World}{r:Option Nat}(h:w.grownBy w' r):Ext w w':=⟨h.os,h.tape,h.output,h.size⟩
def Chg(O:Nat→Prop)(w w':World):Prop:=Ext w w'∧∀b,b<w.heap.size→¬O b→w'.heap[b]?=w.heap[b]?
def StrRow(w:World)(v:Value)(l:List ByteArray):Prop :=
 ∃p cap,v=.slice p l.length cap∧l.length≤cap∧∀(j:Nat) (s:ByteArray),l[j]?=some s→∃b o,p=some ⟨b,o,none⟩∧b<w.heap.size∧w.cell? ⟨b,o+j,none⟩=some (.string s)
theorem StrRow.below{w w':World}{v:Value}{l:List ByteArray}(h:StrRow w v l)(hB:Below w.heap.size w w'):StrRow w' v l:=by
 obtain⟨p,cap,h1,h2,h3⟩:=h
 refine⟨p,cap,h1,h2,fun j s hs=>?_⟩
 obtain⟨b,o,e1,e2,e3⟩:=h3 j s hs
 exact⟨b,o,e1,Nat.lt_of_lt_of_le e2 hB.size,(hB.cell (p:=⟨b,o+j,none⟩) e2).trans e3⟩
theorem OwnS.strs{w:World}{B:Nat}{v:Value}{l:List ByteArray}(h:OwnS w B v l):StrRow w v l:=by
 rcases h.2 with⟨rfl,h0⟩ | ⟨g,cap,cur,rfl,hb,hg,h1,h2,h3,h4⟩
 ·have:l=[]:=List.eq_nil_of_length_eq_zero h0
  subst this
  exact⟨none,0,rfl,Nat.le_refl _,fun j s hs=>by simp at hs⟩
 ·refine⟨_,cap,rfl,h1,fun j s hs=>⟨g,0,rfl,(Array.getElem?_eq_some_iff.1 hg).1,?_⟩⟩
  have:=h.cells (g:=g) rfl j (.string s) (by simp[sb,hs])
  rw[hadd]at this
  exact this
structure Jour{Sg:Type}(base:Nat)(JS:(Nat→Prop)→World→Addr→Sg→Prop)(good:Sg→Prop)(tx:Sg→List (List Nat))(apE:Sg→List Nat→Int)(apS:Sg→List Nat→Sg)(anE:Sg→List (List Nat)→Int)(anS:Sg→List (List Nat)→Sg):Prop where
 lt:∀O w jp s,JS O w jp s→∀b,O b→base≤b∧b<w.heap.size
 keep:∀O w w' jp s,JS O w jp s→Ext w w'→(∀b,O b→w'.heap[b]?=w.heap[b]?)→(∀b,b<base→w'.heap[b]?=w.heap[b]?)→JS O w' jp s
 bytes:∀O w jp s,JS O w jp s→∀t∈tx s,∀c∈t,c<256
 few:∀O w jp s,JS O w jp s→(tx s).length≤3000
 texts:∀O w jp s,JS O w jp s→good s→Calls Tryz.prog 44 #[.pointer (some jp)] w fun e w'=>∃v,e=.returned v∧StrRow w' v ((tx s).map mkS)∧Below w.heap.size w w'
 append:∀O w jp s t,JS O w jp s→good s→(∀c∈t,c<256)→Calls Tryz.prog 34 #[.pointer (some jp),.string (mkS t)] w fun e w'=>∃O',e=.returned (.int .i64 (apE s t))∧JS O' w' jp (apS s t)∧Chg O w w'∧∀b,O' b→O b∨w.heap.size≤b
 anew:∀O w jp s v (ts:List (List Nat)),JS O w jp s→good s→(∀t∈ts,∀c∈t,c<256)→ts.length≤100000→StrRow w v (ts.map mkS)→Calls Tryz.prog 63 #[.pointer (some jp),v] w fun e w'=>∃O',e=.returned (.int .i64 (anE s ts))∧JS O' w' jp (anS s ts)∧Chg O w w'∧∀b,O' b→O b∨w.heap.size≤b
def openF:(ByteArray→Option A)→List (List Nat)→Option (ByteArray→Option A)
 |g,[]=>some g
 |g,t :: r=>match trOf t with
  |some cs=>openF (cs.foldl chF g) r
  |none=>none
theorem openF_snoc(g:ByteArray→Option A):∀(l:List (List Nat)) (t:List Nat),openF g (l++[t])=(openF g l).bind fun g'=>(trOf t).map fun cs=>cs.foldl chF g'
 | [],t=>by
  unfold openF
  cases h:trOf t with
  |none=>simp[h]
  |some cs=>simp[openF,h]
 |x :: r,t=>by
  show openF g (x :: (r++[t]))=_
  unfold openF
  cases h:trOf x with
  |none=>rfl
  |some cs=>exact openF_snoc _ r t
theorem openF_none(g:ByteArray→Option A):∀(l r:List (List Nat)),openF g l=none→openF g (l++r)=none
 | [],r,h=>by simp[openF]at h
 |x :: l,r,h=>by
  show openF g (x :: (l++r))=none
  unfold openF at h ⊢
  cases hx:trOf x with
  |none=>rfl
  |some cs=>rw[hx]at h;exact openF_none _ l r h
theorem ers_mem:∀(l:List A) (d:Nat),ers l d=0→∀x∈l,er x d=0
 | [],_,_,x,hx=>by simp at hx
 |y :: r,d,h,x,hx=>by
  unfold ers at h
  split at h
  ·rename_i h0
   rcases List.mem_cons.1 hx with rfl | hx
   ·exact h0
   ·exact ers_mem r d h x hx
  ·rename_i h0;exact absurd h h0
theorem er_list{l:List A}{d:Nat}(h:er (.list l) d=0):l.length≤255∧∀x∈l,er x (d+1)=0:=by
 unfold er at h
 split at h
 ·cases h
 ·exact⟨by omega,ers_mem l (d+1) h⟩
theorem chOf_keys{x:A}{c:Ch}(h:chOf x=some c)(he:er x 1=0):c.1.size≤65535∧∀a,c.2=some a→er a 2=0:=by
 have hk:∀k:ByteArray,er (.str k) 2=0→k.size≤65535:=fun k h=>by
  unfold er at h
  split at h
  ·cases h
  ·omega
 unfold chOf at h
 split at h
 ·cases h
  exact⟨hk _ ((er_list he).2 _ (by simp)),fun a h=>by cases h⟩
 ·cases h
  exact⟨hk _ ((er_list he).2 _ (by simp)),fun a h=>by cases h;exact(er_list he).2 _ (by simp)⟩
 ·cases h
theorem chsOf_keys:∀(l:List A) (cs:List Ch),chsOf l=some cs→(∀x∈l,er x 1=0)→cs.length=l.length∧∀c∈cs,c.1.size≤65535∧∀a,c.2=some a→er a 2=0
 | [],cs,h,_=>by
  simp[chsOf]at h
  subst h
  exact⟨rfl,fun c hc=>by simp at hc⟩
 |x :: r,cs,h,he=>by
  unfold chsOf at h
  split at h
  ·rename_i c cs' h1 h2
   cases h
   obtain⟨h3,h4⟩:=chsOf_keys r cs' h2 (fun y hy=>he y (List.mem_cons_of_mem _ hy))
   refine⟨by simp[h3],fun d hd=>?_⟩
   rcases List.mem_cons.1 hd with rfl | hd
   ·exact chOf_keys h1 (he x (by simp))
   ·exact h4 d hd
  ·cases h
theorem trOf_keys{t:List Nat}(hb:∀c∈t,c<256){cs:List Ch}(h:trOf t=some cs):cs.length≤255∧∀c∈cs,c.1.size≤65535∧∀a,c.2=some a→er a 2=0:=by
 unfold trOf at h
 split at h
 ·rename_i l hl
  obtain⟨h1,h2⟩:=er_list (pa_was hb hl).2.1
  obtain⟨h3,h4⟩:=chsOf_keys l cs h h2
  exact⟨by omega,h4⟩
 ·cases h
end Go.Proofs.YtlogjpmdfimgdaaGreatDoor
namespace Go.Proofs.YtlogjpmdfimgdaaGreatDoor
open Go.RowKit Go.Own Go.Maps Go.WideMaps
section
variable{Sg:Type}{base:Nat}{JS:(Nat→Prop)→World→Addr→Sg→Prop}{good:Sg→Prop}{tx:Sg→List (List Nat)}{apE:Sg→List Nat→Int}{apS:Sg→List Nat→Sg}{anE:Sg→List (List Nat)→Int}{anS:Sg→List (List Nat)→Sg}
structure StoreAt(base:Nat)(JS:(Nat→Prop)→World→Addr→Sg→Prop)(O S:Nat→Prop)(w:World)(sb:Nat)(jp:Addr)(b n:Nat)(s:Sg)(g:ByteArray→Option A):Prop where
 at_:SAt w sb (some jp) b
 map:MapA w S b n g
 jour:JS O w jp s
 osb:¬O sb
 ob:¬O b
 os:∀k,S k→¬O k
 ne:sb≠b
 ssb:¬S sb
 bb:base≤b
 bsb:base≤sb
 bs:∀k,S k→base≤k
theorem MapV.no_cell{w:World}{b n:Nat}{f:ByteArray→Option Value}(h:MapV w b n f)(o:Nat):w.cell? ⟨b,o,none⟩=none:=by
 obtain⟨D,⟨es,cl,hb,_⟩,_⟩:=h
 unfold World.cell?
 rw[hb]
def OpenQ(base:Nat)(JS:(Nat→Prop)→World→Addr→Sg→Prop)(r:Option (ByteArray→Option A))(O:Nat→Prop)(jp:Addr)(s:Sg)(w:World)(e:Ending)(w':World):Prop :=
 Below w.heap.size w w'∧((r=none∧e=.returned (.tuple #[.pointer none,.int .i64 8])) ∨
  ∃g sb b n S,r=some g∧e=.returned (.tuple #[.pointer (some ⟨sb,0,none⟩),.int .i64 0])∧n≤765000∧(w.heap.size≤sb∧w.heap.size≤b∧∀k,S k→w.heap.size≤k)∧StoreAt base JS O S w' sb jp b n s g)
theorem MapA.made(w:World)(S:Nat→Prop)(hS:¬S w.heap.size):MapA (w.alloc (.map #[] 0)) S w.heap.size 0 (fun _=>none) :=
 ⟨hS,_,MapV.made w,fun _=>Or.inl ⟨rfl,rfl⟩⟩
set_option maxRecDepth 100000 in
set_option maxHeartbeats 4000000 in
theorem open_any(HJ:Jour base JS good tx apE apS anE anS)(O:Nat→Prop)(jp:Addr)(s:Sg)(w:World)(hJ:JS O w jp s)(hgood:good s)(hbw:base≤w.heap.size) :
  Calls Tryz.prog 25 #[.pointer (some jp)] w (OpenQ base JS (openF (fun _=>none) (tx s)) O jp s w):=by
 obtain⟨W1,hW1⟩:∃W1,w.alloc (.map #[] 0)=W1:=⟨_,rfl⟩
 obtain⟨b,hb⟩:∃b,w.heap.size=b:=⟨_,rfl⟩
 have hB1:Below w.heap.size w W1:=hW1▸(Below.refl _ w).alloc (Nat.le_refl _) _
 have hJ1:=HJ.keep O w W1 jp s hJ (ext_below hB1) (fun k hk=>hB1.block k (HJ.lt O w jp s hJ k hk).2) (fun k hk=>hB1.block k (by omega))
 have HT:=Lib.hid (HJ.texts O W1 jp s hJ1 hgood)
 have HM1:Hid (MapA W1 (fun k=>b≤k∧k≠b) b 0 (fun _=>none)):=Lib.hid (by rw[←hW1,←hb];exact MapA.made w _ (fun h=>h.2 rfl))
 have hfew:=HJ.few O w jp s hJ
 have H8:=Lib.hid (HJ.bytes O w jp s hJ)
 have HJk:=Lib.hid (fun w' hE h1 h2=>HJ.keep O w w' jp s hJ hE h1 h2)
 have HJl:=Lib.hid (fun k hk=>(HJ.lt O w jp s hJ k hk))
 have HB1:=Lib.hid hB1
 have hs1:W1.heap.size=b+1:=by rw[←hW1,←hb];simp
 generalize htx:tx s=L at *
 clear hB1 hJ1 HJ hgood hJ htx
 have hQ0:Hid (∀w',Below w.heap.size w w'→openF (fun _=>none) L=none→OpenQ base JS (openF (fun _=>none) L) O jp s w (.returned (.tuple #[.pointer none,.int .i64 8])) w'):=Lib.hid fun w' hB h0=>⟨hB,Or.inl ⟨h0,rfl⟩⟩
 have hmk:(Instr.makeMap 84 none).run Tryz.prog w=.ok (.map (some b)) W1:=by rw[←hW1,←hb];exact run_makeMap 84 w
 go_enter Tryz.func25,Tryz.ntmps25
 go_wp2_with fail
 refine HT.out.mono ?_
 rintro e W2 ⟨v,rfl,hR,hB2⟩
 obtain⟨p,cap,rfl,hcap,hrow⟩:=hR
 rw[List.length_map]at hcap
 obtain⟨n,hn⟩:∃n,L.length=n:=⟨_,rfl⟩
 have hHN:=Lib.hid hn
 have hfold:Hid (∀j t,L[j]?=some t→((L.map mkS)[j]?)=some (mkS t)):=Lib.hid fun j t h=>by rw[List.getElem?_map,h];rfl
 obtain⟨fb,hmb,_⟩:=HM1.out.2
 have hrow2:Hid (∀j t,L[j]?=some t→∃b' o,p=some ⟨b',o,none⟩∧b' < W2.heap.size∧b'≠b∧W2.cell? ⟨b',o+j,none⟩=some (.string (mkS t))):=Lib.hid fun j t h=>by
  obtain⟨b',o,e1,e2,e3⟩:=hrow j (mkS t) (hfold.out j t h)
  refine⟨b',o,e1,e2,fun e=>?_,e3⟩
  subst e
  rw[(hmb.below hB2).no_cell]at e3
  cases e3
 have hM2:Hid (MapA W2 (fun k=>b≤k∧k≠b) b 0 (fun _=>none)):=Lib.hid (HM1.out.below hB2)
 have hBw2:Hid (Below w.heap.size w W2):=Lib.hid (HB1.out.trans (hB2.mono HB1.out.size))
 have hzb:b<W2.heap.size:=by have:=hB2.size;omega
 rw[List.length_map,hn]
 rw[hn]at hcap hfew
 clear HT hB2 hrow hfold hmb HM1 HB1 hmk hn
 go_wp2
 go_loopw [13] (fun i wr=>∃(j m:Nat) (g:ByteArray→Option A),j≤n∧i=.int .i64 (j:Int)∧m≤255*j∧Hid (openF (fun _=>none) (L.take j)=some g)∧Hid (MapA wr (fun k=>b≤k∧k≠b) b m g)∧Hid (Chg (fun k=>k=b) W2 wr)) (fun i _=>n-(intOf i).toNat)
 case atStart=>exact⟨0,0,_,Nat.zero_le _,rfl,Nat.le_refl _,Lib.hid rfl,hM2,Lib.hid ⟨Ext.refl _,fun _ _ _=>rfl⟩⟩
 case round =>
  obtain⟨j,m,g,hj,rfl,hm,hG,hM,hC⟩:=hrel
  by_cases hlt:j<n
  ·have hlti:(j:Int)<(n:Int):=by omega
   obtain⟨x,hx⟩:∃x,L[j]?=some x:=⟨L[j]'(by have:=hHN.out;omega),List.getElem?_eq_getElem _⟩
   obtain⟨b',o,rfl,e1,e2,e3⟩:=hrow2.out j x hx
   have cu:wr.cell? ⟨b',o+j,none⟩=some (.string (mkS x)):=(World.cell?_of_block (w:=W2) (hC.out.2 b' e1 e2)).trans e3
   have h8x:=H8.out x (List.mem_of_getElem? hx)
   have hcall:=Lib.hid (readT_any x h8x wr)
   have hwrb:Hid (Below w.heap.size w wr):=Lib.hid ⟨hC.out.1.os.trans hBw2.out.os,hC.out.1.tape.trans hBw2.out.tape,hC.out.1.output.trans hBw2.out.output,Nat.le_trans hBw2.out.size hC.out.1.size,fun k hk=>(hC.out.2 k (by omega) (by omega)).trans (hBw2.out.block k hk)⟩
   have hjc:j<cap:=by omega
   have hsnoc:Hid (openF (fun _=>none) (L.take (j+1))=(trOf x).map fun cs=>cs.foldl chF g):=Lib.hid (by
    rw[List.take_add_one,hx,show (some x).toList=[x]from rfl,openF_snoc,hG.out];rfl)
   clear e1 e2 e3
   go_wp2_with fail
   refine hcall.out.mono ?_
   rintro e w3 ⟨hB3,⟨h0,v0,rfl⟩ | ⟨cs,cv,hcs,rfl,hA⟩⟩
   ·have hno:Hid (openF (fun _=>none) L=none):=Lib.hid (by
     have:=openF_none (fun _=>none) (L.take (j+1)) (L.drop (j+1)) (by rw[hsnoc.out,h0];rfl)
     rwa [List.take_append_drop]at this)
    have hB4:=Lib.hid (hwrb.out.trans (hB3.mono hwrb.out.size))
    clear hcall hB3 h0
    go_wp2
    go_ret2
    exact hQ0.out _ hB4.out hno.out
   ·obtain⟨hcl,hck⟩:=trOf_keys h8x hcs
    have hM3:=hM.out.below hB3
    have hzr:b<wr.heap.size:=by have:=hC.out.1.size;omega
    obtain⟨ab,hab⟩:∃ab,cv=.func (.func 55) #[] #[.pointer (some ⟨ab,0,none⟩)]:=by obtain⟨ab,_,_,h,_⟩:=hA;exact⟨ab,h⟩
    subst hab
    have hdo:=Lib.hid (doAll_any ab cs (by omega) (fun c hc=>by have:=(hck c hc).1;unfold maxLen;omega) (fun k=>b≤k∧k≠b) (fun k=>wr.heap.size≤k) (fun k hk=>⟨by omega,by omega⟩) b m (by omega) g w3 hM3 hA)
    have hC3:Hid (Chg (fun k=>k=b) W2 w3):=Lib.hid ⟨hC.out.1.trans (ext_below hB3),fun k hk hne=>(hB3.block k (by have:=hC.out.1.size;omega)).trans (hC.out.2 k hk hne)⟩
    have hG3:Hid (openF (fun _=>none) (L.take (j+1))=some (cs.foldl chF g)):=Lib.hid (by rw[hsnoc.out,hcs];rfl)
    clear hcall hB3 hA hM3 hck hcs
    go_wp2_with fail
    refine hdo.out.mono ?_
    rintro e w4 ⟨rfl,hM4,hG4⟩
    have hC4:Hid (Chg (fun k=>k=b) W2 w4):=Lib.hid ⟨hC3.out.1.trans (ext_grown hG4),fun k hk hne=>(hG4.block k (by have:=hC3.out.1.size;omega) (fun e=>hne (by cases e;rfl))).trans (hC3.out.2 k hk hne)⟩
    have HM4:=Lib.hid hM4
    clear hdo hG4 hM4
    go_wp2
    go_roundw
    case rel=>exact⟨j+1,m+cs.length,_,by omega,by go_num,by omega,hG3,HM4,hC4⟩
    case measure=>simp[intOf];omega
  ·obtain rfl:j=n:=by omega
   have hlti:¬(j:Int)<(j:Int):=by omega
   obtain⟨sb,hsb⟩:∃sb,wr.heap.size=sb:=⟨_,rfl⟩
   obtain⟨W9,hW9⟩:∃W9,wr.alloc (.cells #[.pointer (some jp),.map (some b)] 86)=W9:=⟨_,rfl⟩
   have hz2:=hC.out.1.size
   have hwrb:Below w.heap.size w wr:=⟨hC.out.1.os.trans hBw2.out.os,hC.out.1.tape.trans hBw2.out.tape,hC.out.1.output.trans hBw2.out.output,Nat.le_trans hBw2.out.size hC.out.1.size,fun k hk=>(hC.out.2 k (by omega) (by omega)).trans (hBw2.out.block k hk)⟩
   have hB9:Below wr.heap.size wr W9:=hW9▸(Below.refl _ wr).alloc (Nat.le_refl _) _
   have hBW:Below w.heap.size w W9:=hwrb.trans (hB9.mono hwrb.size)
   have hz9:W9.heap.size=sb+1:=by rw[←hW9,←hsb];simp
   have hO:∀k,O k→k<b:=fun k hk=>by have:=(HJl.out k hk).2;omega
   have hg:openF (fun _=>none) L=some g:=by
    have:=hG.out
    rwa [List.take_of_length_le (by have:=hHN.out;omega)]at this
   have hQ:Hid (OpenQ base JS (openF (fun _=>none) L) O jp s w (.returned (.tuple #[.pointer (some ⟨sb,0,none⟩),.int .i64 0])) W9):=Lib.hid ⟨hBW,Or.inr ⟨g,sb,b,m,fun k=>b≤k∧k≠b∧k≠sb,hg,rfl,by omega,⟨by omega,by omega,fun k hk=>by have:=hk.1;omega⟩,{
    at_:=⟨by omega,by rw[←hW9,←hsb];exact heap_alloc_new wr _⟩
    map:=hM.out.keep (fun h=>h.2.1 rfl) (fun k hk hlt=>⟨hk.1,hk.2,by omega⟩) hB9.size (fun k _ hlt=>hB9.block k hlt) (fun f hf=>hf.below hB9)
    jour:=HJk.out W9 (ext_below hBW) (fun k hk=>hBW.block k (by have:=hO k hk;omega)) (fun k hk=>hBW.block k (by omega))
    osb:=fun h=>by have:=hO _ h;omega
    ob:=fun h=>by have:=hO _ h;omega
    os:=fun k hk h=>by have:=hO _ h;have:=hk.1;omega
    ne:=by omega
    ssb:=fun h=>h.2.2 rfl
    bb:=by omega
    bsb:=by omega
    bs:=fun k hk=>by have:=hk.1;omega }⟩⟩
   have hsbW:wr.heap.size=sb:=hsb
   clear hM hC hG hwrb hB9 hBW hO hg hQ0 HJk
   go_wp2
   go_ret2
   exact hQ.out
end
end Go.Proofs.YtlogjpmdfimgdaaGreatDoor

/- A journal on a new disk, opened, opened again: every answer. No condition but the disk's size. -/
import Derived.Test.YtlogjpmdfimgdaaGreatDoorY01
namespace Go.Proofs.YtlogjpmdfimgdaaGreatDoor
open Go Go.RowKit Go.Own Go.Own.Fr Go.Maps Go.WideMaps
theorem toldB_new(n F S:Nat):Jf.toldB (Jf.rep (n*64)) F S=⟨F,S,0,0,[]⟩:=by
 refine Jf.told_of (.refl _) (Jf.next_of_none (Jf.taken_empty ?_)) (Nat.zero_le _)
 have:∀(x:List Nat),(∀y∈x,y=0)→Jf.gi x 0≠76:=fun x hx=>by
  cases x with
  |nil=>decide
  |cons a r=>have:=hx a (by simp);subst this;show (0:Nat)≠76;decide
 refine this _ fun y hy=>?_
 have h1:=List.mem_of_mem_take (List.mem_of_mem_drop hy)
 have h2:=List.mem_of_mem_drop h1
 exact List.eq_of_mem_replicate h2
def j0(n:Nat):Jf.Jn:=⟨⟨0,n/2,0,0,[]⟩,false⟩
theorem j0_open{n:Nat}(h8:8≤n)(hn:n≤4096)(h2:n%2=0):Jf.Inv (j0 n) (Jf.newK n):=by
 have hl:Jf.Live (Jf.newK n):=⟨rfl,rfl,Jf.newK_ok (by omega) hn⟩
 obtain⟨J,hJ,hI⟩:=Jf.open_inv hl h8 h2
 have e:=Jf.open_live hl h8 h2
 have e1:Jf.toldB (Jf.newK n).seen 0 ((Jf.newK n).n/2)=⟨0,n/2,0,0,[]⟩:=toldB_new n 0 (n/2)
 have e2:Jf.toldB (Jf.newK n).seen ((Jf.newK n).n/2) ((Jf.newK n).n/2)=⟨n/2,n/2,0,0,[]⟩:=toldB_new n (n/2) (n/2)
 rw[e1,e2,if_neg (Nat.lt_irrefl _)]at e
 rw[e]at hJ
 simp only[Prod.mk.injEq,Option.some.injEq,and_true]at hJ
 subst hJ
 exact hI
theorem open_js(w:World)(hR:Jf.Sm.Roots w){P:Nat→Prop}{l:List Obj}{d i s q:Nat}{J:Jf.Jn}{M:Jf.Dk}(h:Jf.Sd w P l i s q M)(hI:Jf.Inv J M)(hc:M.count=0) :
  Calls Tryz.prog 24 #[.pointer (some ⟨w.heap.size+i,0,none⟩)] (Jf.Wd w l d) (JOpenQ (jsAt w) (fun k=>w.heap.size≤k∧k<(Jf.Wd w l d).heap.size∧¬P (k-w.heap.size)) ⟨J,M,i⟩ (Jf.Wd w l d)):=by
 refine(Jf.open_st hR h hI.live hI.big (by have:=hI.half;omega) hI.again d).mono ?_
 rintro e w' ⟨jo,g',d',rfl,rfl,hst⟩
 refine⟨fun b=>w.heap.size≤b∧b<(Jf.Wd w (l++g') d').heap.size∧¬P (b-w.heap.size),⟨w.heap.size+jo,0,none⟩,rfl,⟨P,_,_,s,q,jo,rfl,rfl,hst,⟨hI,hc⟩,fun b=>Iff.rfl⟩,Jf.below_of _ _ _ _ _,fun k hk=>?_⟩
 by_cases h2:k<(Jf.Wd w l d).heap.size
 ·exact .inl ⟨hk.1,h2,hk.2.2⟩
 ·exact .inr (by omega)
theorem new_js(w:World)(hR:Jf.Sm.Roots w)(n:Nat)(h8:8≤n)(h2:n≤4096)(he:n%2=0)(W:World)(hB:Below w.heap.size w W) :
  ∃i,Calls Tryz.prog 23 #[.int .i64 (n:Int)] W (DNewQ (jsAt w) (fun _ dp=>dp=⟨w.heap.size+i,0,none⟩) ⟨j0 n,Jf.newK n,i⟩ W):=by
 obtain⟨l,d,rfl⟩:=wd_below (Jf.Wd_nil w).symm (ext_below hB) hB.block
 refine⟨l.length+2,(Jf.new_st w l d n (by omega) h2).mono ?_⟩
 rintro e w' ⟨i,s,q,g',d',rfl,rfl,hsd,rfl⟩
 refine⟨⟨w.heap.size+(l.length+2),0,none⟩,fun k=>w.heap.size≤k∧k<(Jf.Wd w (l++g') d').heap.size∧¬(k-w.heap.size)<l.length,rfl,Jf.below_of _ _ _ _ _,fun k hk=>?_,(open_js w hR hsd (j0_open h8 h2 he) rfl).mono fun e w2 h=>⟨h,fun _ _=>rfl⟩⟩
 rw[Jf.Wd_size]
 omega
end Go.Proofs.YtlogjpmdfimgdaaGreatDoor

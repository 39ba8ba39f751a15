/- awake (f5) answers true; StoreKeys' function, too. No condition but the weights. -/
import Derived.Test.YtlogjpmdfimgdaaGreatDoorY02
namespace Go.Proofs.YtlogjpmdfimgdaaGreatDoor
open Go Go.RowKit Go.Own Go.Own.Fr Go.Maps Go.WideMaps
def x1:List Nat:=bys (prt (trA cs1))
def x2:List Nat:=bys (prt (trA cs2))
def x3:List (List Nat):=(txsB gB [kB]).map bys
def n0:Jf.Hf:=⟨0,16,0,0,[]⟩
def n1:Jf.Hf:=({ n0 with gen:=max n0.gen 1 }:Jf.Hf).with x1
def n2:Jf.Hf:=({ n1 with gen:=max n1.gen 1 }:Jf.Hf).with x2
theorem n0_room:¬n0.room<(x1.length:Int):=by decide +kernel
theorem n1_room:¬n1.room<(x2.length:Int):=by decide +kernel
theorem n2_lays:((⟨n2.size-n2.first,n2.size,n2.gen+1,0,[]⟩:Jf.Hf).lays (Jf.someL x3)).isSome=true:=by decide +kernel
theorem n2_gen:n2.gen≠1099511627776:=by decide +kernel
def cs4:List Ch:=[(kB,some vX)]
theorem x3_eq:x3=[bys (prt (trA cs4))]:=by decide +kernel
theorem x3_open:openF (fun _=>Option.none) x3=some gB:=by
 rw[x3_eq]
 unfold openF openF
 rw[trOf_prt (cs:=cs4) (by decide +kernel) fun c hc a ha=>by
  obtain rfl:=List.mem_singleton.1 hc
  obtain rfl:=Option.some.inj ha
  simp[vX,okA,okAs]]
 refine congrArg some ?_
 funext k
 simp only[cs4,List.foldl_cons,List.foldl_nil,chF,gB]
theorem apE_of{J J':Jf.Jn}{M M':Jf.Dk}{t:List Nat}(e:J.append M t=(J',M',0))(i:Nat):apE ⟨J,M,i⟩ t=0∧apS ⟨J,M,i⟩ t=⟨J',M',i⟩:=by
 unfold apE apS
 rw[e]
 exact⟨rfl,rfl⟩
theorem anE_of{J J':Jf.Jn}{M M':Jf.Dk}{t:List (List Nat)}(e:J.anew M t=(J',M',0))(i:Nat):anE ⟨J,M,i⟩ t=0∧anS ⟨J,M,i⟩ t=⟨J',M',i⟩:=by
 unfold anE anS
 rw[e]
 exact⟨rfl,rfl⟩
theorem wake_any(w:World)(hR:Jf.Sm.Roots w):Calls Tryz.prog 5 #[] w fun e w'=>e=.returned (.bool true)∧Below w.heap.size w w':=by
 refine wake_of (jourJ w hR) goesJ (fun σ=>⟨w.heap.size+σ.i,0,none⟩) id w rfl fun W hB=>?_
 obtain⟨i,hnew⟩:=new_js w hR 32 (by decide) (by decide) (by decide) W hB
 have h0:Jf.Inv ⟨n0,false⟩ (Jf.newK 32):=j0_open (n:=32) (by decide) (by decide) (by decide)
 obtain⟨M1,e1,I1,_,c1⟩:=(h0.append x1 (bys_lt _)).2 n0_room
 obtain⟨M2,e2,I2,_,c2⟩:=Jf.Inv.append (J:=⟨n1,false⟩) I1 x2 (bys_lt _) |>.2 n1_room
 obtain⟨⟨k,ls⟩,hk⟩:=Option.isSome_iff_exists.1 n2_lays
 obtain⟨M3,e3,I3,_,c3⟩:=(Jf.Inv.anew (J:=⟨n2,false⟩) I2 x3 (txs256 _ _) n2_gen).2 k ls hk
 have hkt:k.texts=x3:=by
  have:=(Jf.lays_ok _ _ _ _ hk).texts
  rw[x3_eq]at this ⊢
  simpa [Jf.someL]using this
 refine⟨⟨⟨n0,false⟩,Jf.newK 32,i⟩,⟨⟨n1,false⟩,M1,i⟩,⟨⟨n2,false⟩,M2,i⟩,⟨⟨k,false⟩,M3,i⟩,hnew,?_⟩
 have E1:=apE_of e1 i
 have E2:=apE_of e2 i
 have E3:=anE_of e3 i
 unfold x1 at E1
 unfold x2 at E2
 unfold x3 at E3
 refine⟨⟨h0,rfl⟩,rfl,E1.1,E1.2,E2.1,E2.2,E3.1,E3.2,rfl,?_,⟨I3,c3⟩,?_⟩
 ·rintro O W' jp ⟨P,l,d,s,q,jo,rfl,rfl,hst,hok,hO⟩
  refine(open_js w hR hst.disk hok.1 hok.2).mono ?_
  rintro e w2 ⟨O2,jp2,he,hj,hb,hk⟩
  exact⟨O2,jp2,he,hj,hb,fun k h=>(hk k h).imp (hO k).2 id⟩
 ·show openF (fun _=>Option.none) k.texts=some gB
  rw[hkt]
  exact x3_open
end Go.Proofs.YtlogjpmdfimgdaaGreatDoor

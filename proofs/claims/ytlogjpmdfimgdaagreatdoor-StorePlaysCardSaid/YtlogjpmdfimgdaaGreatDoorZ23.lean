/- What a half tells, step by step. No condition. -/
import Derived.Test.YtlogjpmdfimgdaaGreatDoorZ18
namespace Go.Proofs.YtlogjpmdfimgdaaGreatDoor.Jf
open Go.RowKit Go.Own.Jf
theorem taken_B8{x:List Nat}(hx:B8 x){g n:Nat}{t:List Nat}(h:takenL x=some (g,n,t)):B8 t:=by
 obtain⟨_,_,_,_,_,_,_,_,_,_,_,ht⟩:=taken_some h
 rw[←ht]
 unfold midL
 exact(((hx.take _).append ((hx.drop _).take _)).drop _).take _
theorem next_none{h:Hf}{x:List Nat}(hn:h.next x=none):∀f,Hf.tell x f h=h
 |0=>rfl
 |f+1=>by simp only[Hf.tell,hn]
theorem next_tell{h k:Hf}{x:List Nat}(hn:h.next x=some k)(f:Nat):Hf.tell x (f+1) h=Hf.tell x f k:=by simp only[Hf.tell,hn]
theorem next_of_none{h:Hf}{x:List Nat}(ht:takenL (x.drop (h.used*64))=none):h.next x=none:=by unfold Hf.next;rw[ht]
theorem next_of_some{h:Hf}{x:List Nat}{g n:Nat}{t:List Nat}(ht:takenL (x.drop (h.used*64))=some (g,n,t)) :
  h.next x=if n≠h.texts.length∨h.gen≠0∧g≠h.gen then none else some (({ h with gen:=g }:Hf).with t):=by unfold Hf.next;rw[ht]
theorem taken_fits{x:List Nat}{u n g m:Nat}{t:List Nat}(hx:x.length=n*64)(ht:takenL (x.drop (u*64))=some (g,m,t)):u+secs t.length≤n:=by
 obtain⟨_,_,_,_,_,_,_,_,_,hl,_,_⟩:=taken_some ht
 have hp:=secs_pos t.length
 rw[List.length_drop,hx]at hl
 have:(u+secs t.length)*64≤n*64:=by rw[Nat.add_mul];omega
 omega
end Go.Proofs.YtlogjpmdfimgdaaGreatDoor.Jf

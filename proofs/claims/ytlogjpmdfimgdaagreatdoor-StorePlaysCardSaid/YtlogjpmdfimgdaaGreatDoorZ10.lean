/- The same region law with the frame behind a variable (the guide's own steps of 'go_quiet'): for great frames. No condition. | A region that draws its order and whose first operation is awaited by its last sum alone (a move): taken first by the guide's law 'wpAny_take'; then as in Reg. -/
import Derived.Test.YtlogjpmdfimgdaaGreatDoorZ06
import Derived.BigQuiet
namespace Go.Own.Jf
open Go Go.RowKit
def More(w:World)(l:List Obj)(W:World):Prop:=∃g e,W=Wd w (l++g) e
@[go_sem ↓] theorem all_more{w:World}{l:List Obj}{p:World→Prop}:(∀W,More w l W→p W)↔∀(g:List Obj) (e:Nat),p (Wd w (l++g) e) :=
 ⟨fun h g e=>h _ ⟨g,e,rfl⟩,fun h _ ⟨g,e,hW⟩=>hW▸h g e⟩
theorem wp_region_big{P:Program}{id:Nat}{Q:Exit→Act→World→Prop}{a:Act}{w:World}{l0:List Obj}{d:Nat}{l:List Oper}(n:Nat)(hm:P.follows .mixedOrders=true)(hB:Region.lexTailB .any l.toArray n=true)
  (h:wpQuiet P l.toArray (More w l0) (fun a'=>∀g e,wpList P l.toArray Q (l.drop n) a' (Wd w (l0++g) e)) (l.take n) a):(Code.region id l.toArray true).wp P Q a (Wd w l0 d):=by
 refine wp_region_class_tail (C:=More w l0) n hm hB ⟨[],d+1,by rw[List.append_nil];rfl⟩ ?_
 have e:(fun a'=>∀w',More w l0 w'→wpList P l.toArray Q (l.drop n) a' w')=fun a'=>∀g e,wpList P l.toArray Q (l.drop n) a' (Wd w (l0++g) e):=by
  funext a'
  exact propext all_more
 rw[e]
 exact h
theorem big_call{P:Program}{f:FuncId}{args:Array Value}{v:Value}{w:World}{l0:List Obj}{L:List Obj→List Obj}{g:List Obj}{e:Nat}(hL:∀g m,L g++m=L (g++m))(h0:∀g,L g=l0++g)
  (h:Calls P f args (Wd w (L g) e) fun x w'=>x=.returned v∧Grows (Wd w (L g) e) w') :
  Calls P f args (Wd w (L g) e) fun x w'=>x=.returned v∧More w l0 w' :=
 h.mono fun _ _ ⟨hx,m,k,hk⟩=>⟨hx,g++m,k,by rw[hk,Wd_wd,hL,h0]⟩
def Drew(w:World)(l:List Obj)(W:World):Prop:=∃e,W=Wd w l e
@[go_sem ↓] theorem all_drew{w:World}{l:List Obj}{p:World→Prop}:(∀W,Drew w l W→p W)↔∀e:Nat,p (Wd w l e) :=
 ⟨fun h e=>h _ ⟨e,rfl⟩,fun h _ ⟨e,hW⟩=>hW▸h e⟩
end Go.Own.Jf
namespace Go.Own.Jf
open Go Go.RowKit
section
variable{P:Program}{ops:Array Oper}{md:Region.Mode}{C:World→Prop}
end
end Go.Own.Jf

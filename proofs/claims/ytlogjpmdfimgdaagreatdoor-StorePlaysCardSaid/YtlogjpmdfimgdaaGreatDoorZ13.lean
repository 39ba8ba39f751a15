/- A disk's small calls: refused, Arm, keeper's closure, filled: by contract. No condition. -/
import Derived.Test.YtlogjpmdfimgdaaGreatDoorZ12
namespace Go.Proofs.YtlogjpmdfimgdaaGreatDoor.Jf
open Go.RowKit Go.Own.Jf
section
variable(w:World)(l:List Obj)(d i:Nat){p:Option Addr}{m c:Nat}{vl vw:Value}{n:Nat}{a:Int}{k:Nat}{t:Int}
theorem refused_down{vs:Value}(x:Int)(h:l[i]?=some (.cells (dc vs vl vw n a k t true) 104 (0,0))) :
  Calls Tryz.prog 126 #[.pointer (some ⟨w.heap.size+i,0,none⟩),.int .i64 x] (Wd w l d) fun e w'=>e=.returned (.int .i64 7)∧Wd w l d=w':=by
 go_enter Tryz.func126,Tryz.ntmps126
 go_wp2
 go_ret
 exact⟨rfl,rfl⟩
theorem refused_range(x:Int)(hx:x<0∨(m:Int)≤x)(h:l[i]?=some (.cells (dc (.slice p m c) vl vw n a k t false) 104 (0,0))) :
  Calls Tryz.prog 126 #[.pointer (some ⟨w.heap.size+i,0,none⟩),.int .i64 x] (Wd w l d) fun e w'=>e=.returned (.int .i64 1)∧Wd w l d=w':=by
 by_cases h0:x<0
 ·clear hx
  go_enter Tryz.func126,Tryz.ntmps126
  go_wp2
  go_ret
  exact⟨rfl,rfl⟩
 ·have h1:(m:Int)≤x:=by omega
  clear hx
  go_enter Tryz.func126,Tryz.ntmps126
  go_wp2
  go_ret
  exact⟨rfl,rfl⟩
theorem refused_ok(x:Nat)(hx:x<m)(h:l[i]?=some (.cells (dc (.slice p m c) vl vw n a k t false) 104 (0,0))) :
  Calls Tryz.prog 126 #[.pointer (some ⟨w.heap.size+i,0,none⟩),.int .i64 (x:Int)] (Wd w l d) fun e w'=>e=.returned (.int .i64 0)∧Wd w l d=w':=by
 have h0:¬(x:Int)<0:=by omega
 have h1:¬m≤x:=by omega
 go_enter Tryz.func126,Tryz.ntmps126
 go_wp2
 go_ret
 exact⟨rfl,rfl⟩
end
theorem ba64l(a n:Nat):bits .and .u64 (a:Int) (no_index (OfNat.ofNat n))=((and64 a n:Nat):Int):=ba64 a n
attribute [go_sem] ba64l
def clampN(t:Int):Nat:=(min (max t 0) 64).toNat
def keptN(k:Nat)(t last:Int)(i:Nat):Nat:=if and64 (shr64 k i) 1=0 then 0 else if (i:Int)=last then clampN t else 64
theorem clampN_le(t:Int):clampN t≤64:=by unfold clampN;omega
theorem keptN_le(k:Nat)(t last:Int)(i:Nat):keptN k t last i≤64:=by
 unfold keptN
 split
 ·omega
 ·split
  ·exact clampN_le t
  ·exact Nat.le_refl _
theorem clamp_eq(t:Int):((clampN t:Nat):Int)=min (max t 0) 64:=by unfold clampN;omega
theorem keep_any(w:World)(l:List Obj)(d i1 i2 i3:Nat){k:Nat}{t last:Int}{f1 f2 f3:Nat×Nat}(h1:l[i1]?=some (.cells #[.int .u64 (k:Int)] 39 f1))(h2:l[i2]?=some (.cells #[.int .i64 last] 3 f2))(h3:l[i3]?=some (.cells #[.int .i64 t] 3 f3))(i:Nat)(hi:i<64) :
  Calls Tryz.prog 159 #[.int .i64 (i:Int),.pointer (some ⟨w.heap.size+i1,0,none⟩),.pointer (some ⟨w.heap.size+i2,0,none⟩),.pointer (some ⟨w.heap.size+i3,0,none⟩)] (Wd w l d) fun e w'=>e=.returned (.int .i64 ((keptN k t last i:Nat):Int))∧Wd w l d=w':=by
 have hi8:i≤64:=by omega
 by_cases h0:and64 (shr64 k i) 1=0
 ·have e1:=Lib.hid (show keptN k t last i=0 by unfold keptN;rw[if_pos h0])
  go_enter Tryz.func159,Tryz.ntmps159
  go_wp2
  go_ret
  exact⟨by rw[e1.out];rfl,rfl⟩
 ·have h0':(((and64 (shr64 k i) 1:Nat):Int) == 0)=false:=by rw[beq_eq_false_iff_ne];omega
  by_cases h4:(i:Int)=last
  ·have e1:=Lib.hid (show ((keptN k t last i:Nat):Int)=min (max t 0) 64 by unfold keptN;rw[if_neg h0,if_pos h4,clamp_eq])
   have h4':((i:Int) == last)=true:=by rw[beq_iff_eq];exact h4
   clear h0 h4
   by_cases ht:t<0
   ·have e2:=Lib.hid (show min (max t 0) 64=0 by omega)
    go_enter Tryz.func159,Tryz.ntmps159
    go_wp2
    go_ret
    exact⟨by rw[e1.out,e2.out];rfl,rfl⟩
   ·by_cases ht2:64<t
    ·have e2:=Lib.hid (show min (max t 0) 64=64 by omega)
     go_enter Tryz.func159,Tryz.ntmps159
     go_wp2
     go_ret
     exact⟨by rw[e1.out,e2.out];rfl,rfl⟩
    ·have e2:=Lib.hid (show min (max t 0) 64=t by omega)
     go_enter Tryz.func159,Tryz.ntmps159
     go_wp2
     go_ret
     exact⟨by rw[e1.out,e2.out];rfl,rfl⟩
  ·have e1:=Lib.hid (show keptN k t last i=64 by unfold keptN;rw[if_neg h0,if_neg h4])
   have h4':((i:Int) == last)=false:=by rw[beq_eq_false_iff_ne];exact h4
   clear h0 h4
   go_enter Tryz.func159,Tryz.ntmps159
   go_wp2
   go_ret
   exact⟨by rw[e1.out];rfl,rfl⟩
theorem cpX_le{P:Program}{dT sT ty:TypeId}{w:World}{l:List Obj}{d i o n c:Nat}{s:ByteArray}{S:List Nat}{t:TypeId}
  (hu:P.underlying dT=some (.slice (P.elem dT))) (h1:(sizeOf (P.elem dT)).run P (Wd w l d)=.ok 1 (Wd w l d)) (h2:l[i]?=some (.cells (cv .u8 S) t (0,0))) (hn:s.size≤n) (hfit:o+n≤S.length) :
  cpX P dT sT ty (some (.cells (cv .u8 S) t (0,0))) w l d i o n c s=.ok (.int .i64 (s.size:Int)) (Wd w (l.set i (.cells (cv .u8 (spl S o (bys s))) t (0,0))) d):=by
 have hx:(bys s).length=s.size:=bys_length s
 have hr:=run_storeCells_at P (w.heap.size+i) o t (cv .u8 (bys s)).toList 0 (cv .u8 S) (Wd w l d) (by rw[Wd_at];exact h2) (by simp[hx];omega) cv_oneCell
 rw[Nat.add_zero,spl_cv,Wd_setRow _ _ _ _ _ _ _ _ h2]at hr
 have hm:Nat.min s.size n=s.size:=Nat.min_eq_left hn
 have hf':(Builtin.firstCells 1 s.size (.string s)).run P (Wd w l d)=.ok (cv .u8 (bys s)) (Wd w l d):=by
  have:s.extract 0 s.size=s:=by simp
  simp only[Builtin.firstCells,Sem.run_pure,this,cells_bys]
 simp[cpX,Builtin.copy_,run_underlying hu,Builtin.lenOf,h1,hm,hf',hr,goInt]
def filL(s:List Nat):List Nat:=spl (rep 64) 0 s
theorem filL_length{s:List Nat}(h:s.length≤64):(filL s).length=64:=by unfold filL;rw[spl_length _ _ _ (by simpa using h),rep_length]
theorem filL_B8{s:List Nat}(h:B8 s):B8 (filL s):=(B8.rep 64).spl h 0
attribute [local go_sem] cpX_le
theorem filled_any(s:ByteArray)(hs:s.size≤64)(w:World) :
  Calls Tryz.prog 138 #[.string s] w fun e w'=>e=.returned (.agg (cv .u8 (filL (bys s))))∧Grows w w':=by
 have hl:(spl (rep 64) 0 (bys s)).length=64:=filL_length (by rw[bys_length];exact hs)
 refine calls_wd ?_
 go_enter Tryz.func138,Tryz.ntmps138
 go_wp2
 exact ret_cell (i:=0) rfl rfl ag208 rfl hl rfl ⟨rfl,Grows.of _ _ _⟩
end Go.Proofs.YtlogjpmdfimgdaaGreatDoor.Jf

/- Small calls of sha, by contract: the turns, the picks. -/
import Derived.Test.YtlogjpmdfimgdaaGreatDoorChecked
import Derived.Test.YtlogjpmdfimgdaaGreatDoorZ03
import Derived.Test.YtlogjpmdfimgdaaGreatDoorZ04
import Derived.StillTailTactics
import Derived.Deep.RegionWith
namespace Go.Proofs.YtlogjpmdfimgdaaGreatDoor.Jf.Sm
open Go.RowKit Go.Own.Jf
theorem neg31:∀n:Nat,n<32→1≤n→bits .and .u64 (IntKind.u64.wrap (IntKind.i64.wrap (-(n:Int)))) 31=((32-n:Nat):Int):=by decide
theorem rotl_any(x:Nat)(a:Int)(h1:1≤a)(h2:a≤31)(w:World) :
  Calls Tryz.prog 161 #[.int .u32 x,.int .i64 (-a)] w fun e w'=>e=.returned (.int .u32 (rotI x a))∧w=w':=by
 obtain⟨n,rfl⟩:=Int.eq_ofNat_of_zero_le (show 0≤a by omega)
 have hb:=neg31 n (by omega) (by omega)
 have e1:IntKind.i64.wrap (-(n:Int)) = -(n:Int):=IntWalk.i64_in _ (by omega)
 rw[e1]at hb
 obtain⟨m,hm⟩:∃m,32-n=m:=⟨_,rfl⟩
 rw[hm]at hb
 have hr:Hid (rotI x (n:Int)=or32 (shl32 x m) (shr32 x n)):=by
  unfold rotI
  rw[Int.toNat_natCast,hm]
  exact rfl
 have h32:n≤32:=by omega
 have e4:IntKind.u64.wrap (32-(m:Int))=(n:Int):=by
  rw[show 32-(m:Int)=(n:Int) by omega]
  simp[IntKind.wrap,IntKind.bits,IntKind.signed];omega
 have e3:bits .and .u64 (IntKind.u64.wrap (-(n:Int))) 31=(m:Int):=hb
 clear hb e1 hm h1 h2
 go_enter Tryz.func161,Tryz.ntmps161
 go_wp2
 go_ret
 exact⟨by rw[hr.out];rfl,rfl⟩
theorem turned_any(x:Nat)(a b c:Int)(ha1:1≤a)(ha:a≤31)(hb1:1≤b)(hb:b≤31)(hc1:1≤c)(hc:c≤31)(w:World) :
  Calls Tryz.prog 154 #[.int .u32 x,.int .i64 a,.int .i64 b,.int .i64 c] w fun e w'=>e=.returned (.int .u32 (turnedF x a b c))∧w=w':=by
 have wa:IntKind.i64.wrap (-a) = -a:=IntWalk.i64_in _ (by omega)
 have wb:IntKind.i64.wrap (-b) = -b:=IntWalk.i64_in _ (by omega)
 have wc:IntKind.i64.wrap (-c) = -c:=IntWalk.i64_in _ (by omega)
 go_enter Tryz.func154,Tryz.ntmps154
 go_wp2_with fail
 refine(rotl_any x a ha1 ha _).mono ?_
 rintro e w' ⟨rfl,rfl⟩
 go_wp2_with fail
 refine(rotl_any x b hb1 hb _).mono ?_
 rintro e w' ⟨rfl,rfl⟩
 go_wp2_with fail
 refine(rotl_any x c hc1 hc _).mono ?_
 rintro e w' ⟨rfl,rfl⟩
 go_wp2
 go_ret
 exact⟨rfl,rfl⟩
theorem rotl_same(x:Nat)(a:Int)(h1:1≤a)(h2:a≤31)(w:World) :
  Calls Tryz.prog 161 #[.int .u32 x,.int .i64 (-a)] w fun e w'=>e=.returned (.int .u32 (rotI x a))∧w'=w :=
 (rotl_any x a h1 h2 w).mono fun _ _ h=>⟨h.1,h.2.symm⟩
theorem pick_any(a b c:Nat)(w:World):Calls Tryz.prog 155 #[.int .u32 a,.int .u32 b,.int .u32 c] w fun e w'=>e=.returned (.int .u32 (pickF a b c))∧w=w':=by
 go_enter Tryz.func155,Tryz.ntmps155
 go_wp2
 go_ret
 exact⟨rfl,rfl⟩
theorem most_any(a b c:Nat)(w:World):Calls Tryz.prog 156 #[.int .u32 a,.int .u32 b,.int .u32 c] w fun e w'=>e=.returned (.int .u32 (mostF a b c))∧w=w':=by
 go_enter Tryz.func156,Tryz.ntmps156
 go_wp2
 go_ret
 exact⟨rfl,rfl⟩
end Go.Proofs.YtlogjpmdfimgdaaGreatDoor.Jf.Sm

/- Words of 64 bits as natural numbers: the operations, by name, as the walk meets them. No condition. -/
import Derived.Test.YtlogjpmdfimgdaaGreatDoorZ02
namespace Go.Own.Jf
open Go.RowKit
theorem ofInt64(a:Nat):(BitVec.ofInt 64 (a:Int))=BitVec.ofNat 64 a:=by
 apply BitVec.eq_of_toNat_eq;simp
theorem wrap64n(n:Nat):IntKind.u64.wrap (n:Int)=((n%18446744073709551616:Nat):Int):=by simp[IntKind.wrap,IntKind.bits,IntKind.signed]
def xor64(a b:Nat):Nat:=(a ^^^ b)%18446744073709551616
def and64(a b:Nat):Nat:=(a &&& b)%18446744073709551616
def or64(a b:Nat):Nat:=(a ||| b)%18446744073709551616
def not64(a:Nat):Nat:=(18446744073709551615 ^^^ a)%18446744073709551616
def add64(a b:Nat):Nat:=(a+b)%18446744073709551616
def shl64(a n:Nat):Nat:=a*2 ^ n%18446744073709551616
def shr64(a n:Nat):Nat:=a/2 ^ n
theorem xor_mod64(a b:Nat):(a%18446744073709551616) ^^^ (b%18446744073709551616)=(a ^^^ b)%18446744073709551616:=(Nat.xor_mod_two_pow (n:=64)).symm
theorem and_mod64(a b:Nat):(a%18446744073709551616) &&& (b%18446744073709551616)=(a &&& b)%18446744073709551616:=(Nat.and_mod_two_pow (n:=64)).symm
theorem or_mod64(a b:Nat):(a%18446744073709551616) ||| (b%18446744073709551616)=(a ||| b)%18446744073709551616:=(Nat.or_mod_two_pow (n:=64)).symm
theorem bx64(a b:Nat):bits .xor .u64 (a:Int) (b:Int)=((xor64 a b:Nat):Int):=by
 simp only[bits,IntKind.bits,ofInt64]
 rw[wrap64n]
 show (((a%18446744073709551616 ^^^ b%18446744073709551616)%18446744073709551616:Nat):Int)=_
 rw[xor_mod64,Nat.mod_mod];rfl
theorem bn64(a:Nat):bits .xor .u64 18446744073709551615 (a:Int)=((not64 a:Nat):Int):=bx64 18446744073709551615 a
theorem bm64(a:Nat):bits .xor .u64 IntKind.u64.max (a:Int)=((not64 a:Nat):Int):=bx64 18446744073709551615 a
theorem ba64(a b:Nat):bits .and .u64 (a:Int) (b:Int)=((and64 a b:Nat):Int):=by
 simp only[bits,IntKind.bits,ofInt64]
 rw[wrap64n]
 show ((((a%18446744073709551616) &&& (b%18446744073709551616))%18446744073709551616:Nat):Int)=_
 rw[and_mod64,Nat.mod_mod];rfl
theorem bo64(a b:Nat):bits .or .u64 (a:Int) (b:Int)=((or64 a b:Nat):Int):=by
 simp only[bits,IntKind.bits,ofInt64]
 rw[wrap64n]
 show ((((a%18446744073709551616) ||| (b%18446744073709551616))%18446744073709551616:Nat):Int)=_
 rw[or_mod64,Nat.mod_mod];rfl
theorem add64_op(a b:Nat):IntKind.u64.wrap ((a:Int)+(b:Int))=((add64 a b:Nat):Int):=by
 rw[show (a:Int)+(b:Int)=((a+b:Nat):Int) by simp,wrap64n];rfl
theorem shl64_op(a n:Nat)(yk:IntKind):Op.shift .shl .u64 (a:Int) yk (n:Int)=pure (.int .u64 ((shl64 a n:Nat):Int)):=by
 have h:¬(n:Int)<0:=by omega
 have e:(a:Int)*2 ^ min n 64=((a*2 ^ min n 64:Nat):Int):=by simp
 have e2:a*2 ^ min n 64%18446744073709551616=a*2 ^ n%18446744073709551616:=by
  rcases Nat.le_total n 64 with h | h
  ·rw[Nat.min_eq_left h]
  ·rw[Nat.min_eq_right h]
   obtain⟨m,rfl⟩:=Nat.exists_eq_add_of_le h
   have e1:a*2 ^ (64+m)=18446744073709551616*(a*2 ^ m):=by rw[Nat.pow_add,Nat.mul_left_comm]
   rw[e1,Nat.mul_mod_right]
   show a*18446744073709551616%18446744073709551616=0
   exact Nat.mul_mod_left _ _
 simp only[Op.shift,IntKind.bits,h,if_false,Int.toNat_natCast,e,wrap64n,shl64,e2]
theorem shl64_opl(a n:Nat)(yk:IntKind):Op.shift .shl .u64 (a:Int) yk (no_index (OfNat.ofNat n))=pure (.int .u64 ((shl64 a n:Nat):Int)):=shl64_op a n yk
theorem shr64_op(a n:Nat)(yk:IntKind)(h8:n≤64):Op.shift .shr .u64 (a:Int) yk (n:Int)=pure (.int .u64 ((shr64 a n:Nat):Int)):=by
 rw[shift_shr _ _ _ _ (by omega) (by simp[IntKind.bits];omega)]
 simp[shr64]
theorem shr64_opl(a n:Nat)(yk:IntKind)(h8:n≤64):Op.shift .shr .u64 (a:Int) yk (no_index (OfNat.ofNat n))=pure (.int .u64 ((shr64 a n:Nat):Int)):=shr64_op a n yk h8
attribute [go_sem] bx64 ba64 bo64 bn64 bm64 add64_op
attribute [go_sem ↓] shl64_op shl64_opl shr64_op shr64_opl
end Go.Own.Jf

/- Words of 32 bits as natural numbers: the operations, by name, as the walk meets them. No condition. -/
import Derived.Test.YtlogjpmdfimgdaaGreatDoorZ02
namespace Go.Own.Jf
open Go.RowKit
theorem ofInt32(a:Nat):(BitVec.ofInt 32 (a:Int))=BitVec.ofNat 32 a:=by
 apply BitVec.eq_of_toNat_eq;simp
theorem wrap32n(n:Nat):IntKind.u32.wrap (n:Int)=((n%4294967296:Nat):Int):=by simp[IntKind.wrap,IntKind.bits,IntKind.signed]
def xor32(a b:Nat):Nat:=(a ^^^ b)%4294967296
def and32(a b:Nat):Nat:=(a &&& b)%4294967296
def or32(a b:Nat):Nat:=(a ||| b)%4294967296
def not32(a:Nat):Nat:=(4294967295 ^^^ a)%4294967296
def add32(a b:Nat):Nat:=(a+b)%4294967296
def shl32(a n:Nat):Nat:=a*2 ^ n%4294967296
def shr32(a n:Nat):Nat:=a/2 ^ n
theorem xor_mod32(a b:Nat):(a%4294967296) ^^^ (b%4294967296)=(a ^^^ b)%4294967296:=(Nat.xor_mod_two_pow (n:=32)).symm
theorem and_mod32(a b:Nat):(a%4294967296) &&& (b%4294967296)=(a &&& b)%4294967296:=(Nat.and_mod_two_pow (n:=32)).symm
theorem or_mod32(a b:Nat):(a%4294967296) ||| (b%4294967296)=(a ||| b)%4294967296:=(Nat.or_mod_two_pow (n:=32)).symm
theorem bx32(a b:Nat):bits .xor .u32 (a:Int) (b:Int)=((xor32 a b:Nat):Int):=by
 simp only[bits,IntKind.bits,ofInt32]
 rw[wrap32n]
 show (((a%4294967296 ^^^ b%4294967296)%4294967296:Nat):Int)=_
 rw[xor_mod32,Nat.mod_mod];rfl
theorem bn32(a:Nat):bits .xor .u32 4294967295 (a:Int)=((not32 a:Nat):Int):=bx32 4294967295 a
theorem bm32(a:Nat):bits .xor .u32 IntKind.u32.max (a:Int)=((not32 a:Nat):Int):=bx32 4294967295 a
theorem ba32(a b:Nat):bits .and .u32 (a:Int) (b:Int)=((and32 a b:Nat):Int):=by
 simp only[bits,IntKind.bits,ofInt32]
 rw[wrap32n]
 show ((((a%4294967296) &&& (b%4294967296))%4294967296:Nat):Int)=_
 rw[and_mod32,Nat.mod_mod];rfl
theorem bo32(a b:Nat):bits .or .u32 (a:Int) (b:Int)=((or32 a b:Nat):Int):=by
 simp only[bits,IntKind.bits,ofInt32]
 rw[wrap32n]
 show ((((a%4294967296) ||| (b%4294967296))%4294967296:Nat):Int)=_
 rw[or_mod32,Nat.mod_mod];rfl
theorem add32_op(a b:Nat):IntKind.u32.wrap ((a:Int)+(b:Int))=((add32 a b:Nat):Int):=by
 rw[show (a:Int)+(b:Int)=((a+b:Nat):Int) by simp,wrap32n];rfl
theorem shl32_op(a n:Nat)(yk:IntKind):Op.shift .shl .u32 (a:Int) yk (n:Int)=pure (.int .u32 ((shl32 a n:Nat):Int)):=by
 have h:¬(n:Int)<0:=by omega
 have e:(a:Int)*2 ^ min n 32=((a*2 ^ min n 32:Nat):Int):=by simp
 have e2:a*2 ^ min n 32%4294967296=a*2 ^ n%4294967296:=by
  rcases Nat.le_total n 32 with h | h
  ·rw[Nat.min_eq_left h]
  ·rw[Nat.min_eq_right h]
   obtain⟨m,rfl⟩:=Nat.exists_eq_add_of_le h
   have e1:a*2 ^ (32+m)=4294967296*(a*2 ^ m):=by rw[Nat.pow_add,Nat.mul_left_comm]
   rw[e1,Nat.mul_mod_right]
   show a*4294967296%4294967296=0
   exact Nat.mul_mod_left _ _
 simp only[Op.shift,IntKind.bits,h,if_false,Int.toNat_natCast,e,wrap32n,shl32,e2]
theorem shl32_opl(a n:Nat)(yk:IntKind):Op.shift .shl .u32 (a:Int) yk (no_index (OfNat.ofNat n))=pure (.int .u32 ((shl32 a n:Nat):Int)):=shl32_op a n yk
theorem shr32_op(a n:Nat)(yk:IntKind)(h8:n≤32):Op.shift .shr .u32 (a:Int) yk (n:Int)=pure (.int .u32 ((shr32 a n:Nat):Int)):=by
 rw[shift_shr _ _ _ _ (by omega) (by simp[IntKind.bits];omega)]
 simp[shr32]
theorem shr32_opl(a n:Nat)(yk:IntKind)(h8:n≤32):Op.shift .shr .u32 (a:Int) yk (no_index (OfNat.ofNat n))=pure (.int .u32 ((shr32 a n:Nat):Int)):=shr32_op a n yk h8
attribute [go_sem] bx32 ba32 bo32 bn32 bm32 add32_op
attribute [go_sem ↓] shl32_op shl32_opl shr32_op shr32_opl
def rotI(x:Nat)(a:Int):Nat:=or32 (shl32 x (32-a.toNat)) (shr32 x a.toNat)
def turnedF(x:Nat)(a b c:Int):Nat:=xor32 (xor32 (rotI x a) (rotI x b)) (rotI x c)
def shiftedF(x:Nat)(a b c:Int):Nat:=xor32 (xor32 (rotI x a) (rotI x b)) (shr32 x c.toNat)
def pickF(w y n:Nat):Nat:=xor32 (and32 w y) (and32 (not32 w) n)
def mostF(a b c:Nat):Nat:=xor32 (xor32 (and32 a b) (and32 a c)) (and32 b c)
end Go.Own.Jf

/- Rows of numbers, gone through and written piece by piece; the bit operations on bytes, as natural numbers. No condition. -/
import Derived.Test.YtlogjpmdfimgdaaGreatDoorZ01
namespace Go.Own.Jf
open Go.RowKit
def fin(c:Nat)(f:Nat→List Nat)(k:Nat)(s:List Nat):List Nat:=(List.range k).flatMap f++s.drop (c*k)
theorem flat_length{c:Nat}{f:Nat→List Nat}(hf:∀i,(f i).length=c):∀k,((List.range k).flatMap f).length=c*k
 |0=>by simp
 |k+1=>by
  have:=flat_length hf k
  simp[List.range_succ,hf,this,Nat.mul_add]
theorem fin_length{c:Nat}{f:Nat→List Nat}(hf:∀i,(f i).length=c){k:Nat}{s:List Nat}(h:c*k≤s.length):(fin c f k s).length=s.length:=by
 simp only[fin,List.length_append,flat_length hf,List.length_drop];omega
theorem fin_zero(c:Nat)(f:Nat→List Nat)(s:List Nat):fin c f 0 s=s:=by simp[fin]
theorem fin_step{c:Nat}{f:Nat→List Nat}(hf:∀i,(f i).length=c){k:Nat}{s:List Nat}:spl (fin c f k s) (c*k) (f k)=fin c f (k+1) s:=by
 have hl:=flat_length hf k
 simp only[spl,fin,hf]
 rw[List.take_append_of_le_length (by omega),List.take_of_length_le (by omega),List.drop_append,List.drop_of_length_le (by omega),hl]
 simp[List.range_succ,List.drop_drop,Nat.mul_add]
theorem fin_drop{c:Nat}{f:Nat→List Nat}(hf:∀i,(f i).length=c){k o:Nat}{s:List Nat}(h:c*k≤o):(fin c f k s).drop o=s.drop o:=by
 have hl:=flat_length hf k
 simp only[fin]
 rw[List.drop_append,List.drop_of_length_le (by omega),hl,List.drop_drop]
 simp;congr 1;omega
theorem fin_gi{c:Nat}{f:Nat→List Nat}(hf:∀i,(f i).length=c){k o:Nat}{s:List Nat}(h:c*k≤o):gi (fin c f k s) o=gi s o:=by
 have:=congrArg (fun l=>l.getD 0 0) (fin_drop hf h (s:=s))
 simpa [gi,List.getD]using this
theorem fin_end{c:Nat}{f:Nat→List Nat}{n:Nat}{s:List Nat}(h:s.length≤c*n):fin c f n s=(List.range n).flatMap f:=by
 simp[fin,List.drop_of_length_le h]
def pc(s:List Nat)(i:Nat):List Nat:=(s.drop (i*4)++rep 4).take 4
theorem one_length(f:Nat→Nat)(i:Nat):((fun i=>[f i]) i).length=1:=rfl
def fin1(f:Nat→Nat)(k:Nat)(s:List Nat):List Nat:=fin 1 (fun i=>[f i]) k s
theorem fin1_length{f:Nat→Nat}{k:Nat}{s:List Nat}(h:k≤s.length):(fin1 f k s).length=s.length:=fin_length (one_length f) (by omega)
theorem fin1_zero(f:Nat→Nat)(s:List Nat):fin1 f 0 s=s:=fin_zero _ _ _
theorem fin1_step{f:Nat→Nat}{k:Nat}{s:List Nat}:spl (fin1 f k s) k [f k]=fin1 f (k+1) s:=by
 have:=fin_step (one_length f) (k:=k) (s:=s)
 simpa [fin1]using this
theorem fin1_gi{f:Nat→Nat}{k o:Nat}{s:List Nat}(h:k≤o):gi (fin1 f k s) o=gi s o:=fin_gi (one_length f) (by omega)
theorem fin1_end{f:Nat→Nat}{n:Nat}{s:List Nat}(h:s.length≤n):fin1 f n s=(List.range n).map f:=by
 rw[fin1,fin_end (by omega)]
 induction (List.range n) <;> simp_all
theorem ofInt8(a:Nat):(BitVec.ofInt 8 (a:Int))=BitVec.ofNat 8 a:=by
 apply BitVec.eq_of_toNat_eq;simp
theorem wrap8(n:Nat):IntKind.u8.wrap (n:Int)=((n%256:Nat):Int):=by simp[IntKind.wrap,IntKind.bits,IntKind.signed]
theorem xor_mod8(a b:Nat):(a%256) ^^^ (b%256)=(a ^^^ b)%256:=(Nat.xor_mod_two_pow (n:=8)).symm
theorem and_mod8(a b:Nat):(a%256) &&& (b%256)=(a &&& b)%256:=(Nat.and_mod_two_pow (n:=8)).symm
theorem or_mod8(a b:Nat):(a%256) ||| (b%256)=(a ||| b)%256:=(Nat.or_mod_two_pow (n:=8)).symm
def xor8(a b:Nat):Nat:=(a ^^^ b)%256
def and8(a b:Nat):Nat:=(a &&& b)%256
def or8(a b:Nat):Nat:=(a ||| b)%256
def shl8(a n:Nat):Nat:=a*2 ^ n%256
def shr8(a n:Nat):Nat:=a/2 ^ n
theorem bx8(a b:Nat):bits .xor .u8 (a:Int) (b:Int)=((xor8 a b:Nat):Int):=by
 simp only[bits,IntKind.bits,ofInt8]
 rw[wrap8]
 show (((a%256 ^^^ b%256)%256:Nat):Int)=_
 rw[xor_mod8,Nat.mod_mod];rfl
theorem ba8(a b:Nat):bits .and .u8 (a:Int) (b:Int)=((and8 a b:Nat):Int):=by
 simp only[bits,IntKind.bits,ofInt8]
 rw[wrap8]
 show ((((a%256) &&& (b%256))%256:Nat):Int)=_
 rw[and_mod8,Nat.mod_mod];rfl
theorem bo8(a b:Nat):bits .or .u8 (a:Int) (b:Int)=((or8 a b:Nat):Int):=by
 simp only[bits,IntKind.bits,ofInt8]
 rw[wrap8]
 show ((((a%256) ||| (b%256))%256:Nat):Int)=_
 rw[or_mod8,Nat.mod_mod];rfl
theorem bx8l(a n:Nat):bits .xor .u8 (a:Int) (no_index (OfNat.ofNat n))=((xor8 a n:Nat):Int):=bx8 a n
theorem ba8l(a n:Nat):bits .and .u8 (a:Int) (no_index (OfNat.ofNat n))=((and8 a n:Nat):Int):=ba8 a n
theorem bx8r(a n:Nat):bits .xor .u8 (no_index (OfNat.ofNat n)) (a:Int)=((xor8 n a:Nat):Int):=bx8 n a
theorem shl8_op(a n:Nat)(yk:IntKind):Op.shift .shl .u8 (a:Int) yk (n:Int)=pure (.int .u8 ((shl8 a n:Nat):Int)):=by
 have h:¬(n:Int)<0:=by omega
 have e:(a:Int)*2 ^ min n 8=((a*2 ^ min n 8:Nat):Int):=by simp
 have e2:a*2 ^ min n 8%256=a*2 ^ n%256:=by
  rcases Nat.le_total n 8 with h | h
  ·rw[Nat.min_eq_left h]
  ·rw[Nat.min_eq_right h]
   obtain⟨m,rfl⟩:=Nat.exists_eq_add_of_le h
   have e1:a*2 ^ (8+m)=256*(a*2 ^ m):=by rw[Nat.pow_add,Nat.mul_left_comm]
   rw[e1,Nat.mul_mod_right]
   show a*256%256=0
   exact Nat.mul_mod_left _ _
 simp only[Op.shift,IntKind.bits,h,if_false,Int.toNat_natCast,e,wrap8,shl8,e2]
theorem shl8_opl(a n:Nat)(yk:IntKind):Op.shift .shl .u8 (a:Int) yk (no_index (OfNat.ofNat n))=pure (.int .u8 ((shl8 a n:Nat):Int)):=shl8_op a n yk
theorem shr8_op(a n:Nat)(yk:IntKind)(h8:n≤8):Op.shift .shr .u8 (a:Int) yk (n:Int)=pure (.int .u8 ((shr8 a n:Nat):Int)):=by
 rw[shift_shr _ _ _ _ (by omega) (by simp[IntKind.bits];omega)]
 simp[shr8]
theorem shr8_opl(a n:Nat)(yk:IntKind)(h8:n≤8):Op.shift .shr .u8 (a:Int) yk (no_index (OfNat.ofNat n))=pure (.int .u8 ((shr8 a n:Nat):Int)):=shr8_op a n yk h8
attribute [go_sem] bx8 ba8 bo8 bx8l ba8l bx8r
attribute [go_sem ↓] shl8_op shl8_opl shr8_op shr8_opl
theorem wrap64_nat(n:Nat)(h:n<9223372036854775808):IntKind.i64.wrap (n:Int)=(n:Int):=IntWalk.i64_in _ (by omega)
theorem wrap64_lit(n:Nat)(h:n<9223372036854775808):IntKind.i64.wrap (no_index (OfNat.ofNat n))=(OfNat.ofNat n):=wrap64_nat n h
attribute [go_sem] wrap64_lit
end Go.Own.Jf

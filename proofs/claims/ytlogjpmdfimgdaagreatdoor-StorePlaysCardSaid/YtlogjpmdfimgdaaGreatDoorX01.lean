/- Strings as rows of bytes, by name. No program. | Values as trees, their bytes, and what is read of bytes. No program. | What was printed is read; what is read was printed; how long it is at most; going through places. No program. | Values in memory: what is told by its type, and the document's own. No condition. | A row of values of the call's own. No condition. | Rows of bytes of the call's own. No condition but the sizes. | A map from keys to values, in memory: what stands at each key; rows of strings of the call's own. No condition. | The library's sort of strings, at this program: laid by the kit's own command and written out in plain words. No condition. | The library's sort, on a row of strings of the call's own; what a sorted row of a map's keys is. No condition but the row's size. -/
import Derived.WalkKit
import Derived.Lib.Hide
import Derived.Test.YtlogjpmdfimgdaaGreatDoorProg
import Derived.WalkSpells
import Derived.Carry
import Derived.Outline
import Derived.Deep.AppendLies
import Derived.Lib.AppendStr
import Derived.Laws.BytesArg
import Derived.Laws.Cells
import Derived.Maps.RangeWalk
import Derived.Maps.OwnSet
import Derived.StringKeys
import Derived.Laws.EntriesVeiled
import Derived.Shelf.SortM.Plain
import Derived.Shelf.SortM.SortNone
import Derived.Sort.OwnSorted
namespace Go.Own
open Go.RowKit
def gi(s:List Nat)(i:Nat):Nat:=s.getD i 0
def bys(s:ByteArray):List Nat:=s.data.toList.map UInt8.toNat
def mkS(l:List Nat):ByteArray:=⟨(l.map UInt8.ofNat).toArray⟩
theorem bys_length(s:ByteArray):(bys s).length=s.size:=by simp only[bys,List.length_map,Array.length_toList];rfl
theorem mkS_bys(s:ByteArray):mkS (bys s)=s:=by
 cases s with | mk d=>simp[mkS,bys,Function.comp_def]
theorem mkS_size(l:List Nat):(mkS l).size=l.length:=by simp[mkS,ByteArray.size]
theorem bys_lt(s:ByteArray):∀n∈bys s,n<256:=by
 intro n hn
 simp only[bys,List.mem_map]at hn
 obtain⟨b,_,rfl⟩:=hn
 exact b.toNat_lt
theorem gi_bys_lt(s:ByteArray)(i:Nat):gi (bys s) i<256:=by
 unfold gi
 rw[List.getD_eq_getElem?_getD]
 cases h:(bys s)[i]? with
 |none=>decide
 |some n=>exact bys_lt s n (List.mem_of_getElem? h)
theorem bys_mkS(l:List Nat)(h:∀n∈l,n<256):bys (mkS l)=l:=by
 simp only[bys,mkS,List.map_map]
 conv=>rhs;rw[←List.map_id l]
 apply List.map_congr_left
 intro n hn
 have:=h n hn
 simp;omega
theorem bys_inj{s t:ByteArray}(h:bys s=bys t):s=t:=by rw[←mkS_bys s,h,mkS_bys]
theorem bys_extract(s:ByteArray)(a b:Nat):bys (s.extract a b)=((bys s).drop a).take (b-a):=by
 simp[bys,List.extract_eq_take_drop,List.map_take,List.map_drop]
theorem bys_append(s t:ByteArray):bys (s++t)=bys s++bys t:=by
 simp[bys]
theorem mkS_append(a b:List Nat):mkS (a++b)=mkS a++mkS b:=by
 apply ByteArray.ext;simp[mkS]
end Go.Own
namespace Go.Own
inductive A where
 |num (n:Int)
 |str (s:ByteArray)
 |bool (b:Bool)
 |list (l:List A)
 |none
 |odd
inductive V where
 |mk (k n:Int) (s:ByteArray) (b:Bool) (l:List V)
def be:Nat→Nat→List Nat
 |0,_=>[]
 |k+1,n=>n/256 ^ k%256 :: be k n
def val(l:List Nat):Nat:=l.foldl (fun a c=>a*256+c) 0
def two63:Nat:=9223372036854775808
def two64:Nat:=18446744073709551616
def u64(n:Int):Nat:=(n%(two64:Int)).toNat
def s64(n:Nat):Int:=if n<two63 then (n:Int)else (n:Int)-(two64:Int)
def In64(n:Int):Prop := -(two63:Int)≤n∧n<(two63:Int)
mutual
def er:A→Nat→Int
 | .num _,_=>0
 | .str s,_=>if 65535<s.size then 3 else 0
 | .bool _,_=>0
 | .list l,d=>if 255<l.length∨8≤d then 3 else ers l (d+1)
 | .none,_=>9
 | .odd,_=>9
def ers:List A→Nat→Int
 | [],_=>0
 |x :: r,d=>if er x d=0 then ers r d else er x d
end
mutual
def pr:A→List Nat
 | .num n=>105 :: be 8 (u64 n)
 | .str s=>115 :: (be 2 s.size++bys s)
 | .bool b=>[if b then 121 else 110]
 | .list l=>108 :: (be 1 l.length++prs l)
 | .none=>[]
 | .odd=>[]
def prs:List A→List Nat
 | []=>[]
 |x :: r=>pr x++prs r
end
mutual
def sz:A→Nat→Nat
 | .num _,_=>9
 | .str s,_=>if 65535<s.size then 0 else 3+s.size
 | .bool _,_=>1
 | .list l,d=>if 255<l.length∨8≤d then 0 else 2+szs l (d+1)
 | .none,_=>0
 | .odd,_=>0
def szs:List A→Nat→Nat
 | [],_=>0
 |x :: r,d=>sz x d+szs r d
end
mutual
def okA:A→Prop
 | .num n=>In64 n
 | .list l=>okAs l
 |_=>True
def okAs:List A→Prop
 | []=>True
 |x :: r=>okA x∧okAs r
end
mutual
def ofV:V→A
 | .mk k n s b l=>if k=1 then .num n else if k=2 then .str s else if k=3 then .bool b else if k=4 then .list (ofVs l)else .none
def ofVs:List V→List A
 | []=>[]
 |x :: r=>ofV x :: ofVs r
end
mutual
def toV:A→V
 | .num n=>.mk 1 n { data:=#[] } false []
 | .str s=>.mk 2 0 s false []
 | .bool b=>.mk 3 0 { data:=#[] } b []
 | .list l=>.mk 4 0 { data:=#[] } false (toVs l)
 | .none=>.mk 0 0 { data:=#[] } false []
 | .odd=>.mk 0 0 { data:=#[] } false []
def toVs:List A→List V
 | []=>[]
 |x :: r=>toV x :: toVs r
end
mutual
def fewV:V→Nat→Bool
 | .mk _ _ s _ l,d=>!(decide (10<d)||decide (70000<s.size)||decide (300<l.length)||(decide (1<d)&&decide (5<l.length)))&&fewVs l (d+1)
def fewVs:List V→Nat→Bool
 | [],_=>true
 |x :: r,d=>fewV x d&&fewVs r d
end
def rdL(f:List Nat→Option (A×List Nat)):Nat→List Nat→Option (List A×List Nat)
 |0,t=>some ([],t)
 |c+1,t=>match f t with
  |none=>none
  |some (x,t')=>match rdL f c t' with
   |none=>none
   |some (r,t'')=>some (x :: r,t'')
def listR(g:Option (List Nat→Option (A×List Nat)))(t:List Nat):Option (A×List Nat) :=
 match g with
 |none=>none
 |some f=>match t with
  | []=>none
  |n :: t'=>match rdL f n t' with
   |none=>none
   |some (l,t'')=>some (.list l,t'')
def body(g:Option (List Nat→Option (A×List Nat))):List Nat→Option (A×List Nat)
 | []=>none
 |c :: t =>
  if c=105 then (if t.length<8 then none else some (.num (s64 (val (t.take 8))),t.drop 8))
  else if c=115 then (if t.length<2 then none else if t.length-2<val (t.take 2)then none else some (.str (mkS ((t.drop 2).take (val (t.take 2)))),(t.drop 2).drop (val (t.take 2))))
  else if c=121 then some (.bool true,t)
  else if c=110 then some (.bool false,t)
  else if c=108 then listR g t
  else none
def rd:Nat→List Nat→Option (A×List Nat)
 |0=>body none
 |m+1=>body (some (rd m))
def cm:A→List Int→Int×A
 |a,[]=>(0,a)
 | .list l,i :: r=>if i<0∨(l.length:Int)≤i then (4,.none)else cm (l.getD i.toNat .none) r
 |_,_ :: _=>(9,.none)
def zeroV:V:=.mk 0 0 { data:=#[] } false []
def wi:V→List Int→Int×V
 |a,[]=>(0,a)
 | .mk k _ _ _ l,i :: r=>if k≠4 then (9,zeroV)else if i<0∨(l.length:Int)≤i then (4,zeroV)else wi (l.getD i.toNat zeroV) r
theorem be_length:∀k n,(be k n).length=k
 |0,_=>rfl
 |k+1,n=>by simp[be,be_length k n]
theorem be_lt:∀k n,∀c∈be k n,c<256
 |0,_,c,h=>by simp[be]at h
 |k+1,n,c,h=>by
  simp only[be,List.mem_cons]at h
  rcases h with rfl | h
  ·omega
  ·exact be_lt k n c h
theorem val_app(a b:List Nat):val (a++b)=val a*256 ^ b.length+val b:=by
 unfold val
 rw[List.foldl_append]
 generalize List.foldl (fun a c=>a*256+c) 0 a=z
 have:∀(b:List Nat) (z:Nat),List.foldl (fun a c=>a*256+c) z b=z*256 ^ b.length+List.foldl (fun a c=>a*256+c) 0 b:=by
  intro b
  induction b with
  |nil=>intro z;simp
  |cons c b ih =>
   intro z
   simp only[List.foldl_cons,List.length_cons]
   rw[ih,ih (0*256+c)]
   rw[Nat.pow_succ,Nat.add_mul,Nat.zero_mul,Nat.zero_add,Nat.mul_assoc,Nat.mul_comm 256,Nat.add_assoc]
 exact this b z
theorem val_cons(c:Nat)(b:List Nat):val (c :: b)=c*256 ^ b.length+val b:=by
 have:=val_app [c] b
 simp[val]at this
 simp[val,this]
theorem val_snoc(a:List Nat)(c:Nat):val (a++[c])=val a*256+c:=by
 simp[val]
theorem val_lt:∀l:List Nat,(∀c∈l,c<256)→val l<256 ^ l.length
 | [],_=>by simp[val]
 |c :: b,h=>by
  have h1:=val_lt b (fun x hx=>h x (by simp[hx]))
  have h2:=h c (by simp)
  rw[val_cons,List.length_cons,Nat.pow_succ]
  have:c*256 ^ b.length≤255*256 ^ b.length:=Nat.mul_le_mul_right _ (by omega)
  omega
theorem val_be:∀k n,val (be k n)=n%256 ^ k
 |0,n=>by simp[be,val,Nat.mod_one]
 |k+1,n=>by
  rw[be,val_cons,be_length,val_be k n,Nat.pow_succ,Nat.mod_mul,Nat.mul_comm,Nat.add_comm]
theorem be_val:∀(l:List Nat),(∀c∈l,c<256)→be l.length (val l)=l
 | [],_=>rfl
 |c :: b,h=>by
  have h1:=be_val b (fun x hx=>h x (by simp[hx]))
  have hl:=val_lt b (fun x hx=>h x (by simp[hx]))
  have h2:=h c (by simp)
  have hp:0<256 ^ b.length:=Nat.pow_pos (by omega)
  rw[List.length_cons,be,val_cons]
  have e1:(c*256 ^ b.length+val b)/256 ^ b.length=c:=by
   rw[Nat.mul_comm,Nat.mul_add_div hp,Nat.div_eq_of_lt hl,Nat.add_zero]
  rw[e1,Nat.mod_eq_of_lt h2]
  have e2:∀(k m x:Nat),k≤m→be k (x*256 ^ m+val b)=be k (val b):=by
   intro k
   induction k with
   |zero=>intro m x _;rfl
   |succ k ih =>
    intro m x hk
    simp only[be]
    rw[ih m x (by omega)]
    congr 1
    obtain⟨q,rfl⟩:∃q,m=k+1+q:=⟨m-(k+1),by omega⟩
    have e:x*256 ^ (k+1+q)=256 ^ k*(256*(x*256 ^ q)):=by
     rw[Nat.pow_add,Nat.pow_succ];ac_rfl
    rw[e,Nat.mul_add_div (Nat.pow_pos (by omega))]
    omega
  rw[e2 _ _ _ (Nat.le_refl _),h1]
theorem u64_lt(n:Int):u64 n<two64:=by
 have:0<(two64:Int):=by unfold two64;omega
 have h1:=Int.emod_nonneg n (by omega:(two64:Int)≠0)
 have h2:=Int.emod_lt_of_pos n this
 unfold u64
 omega
theorem s64_u64{n:Int}(h:In64 n):s64 (u64 n)=n:=by
 unfold In64 at h
 unfold s64 u64 two63 two64 at *
 split <;> omega
theorem u64_s64{n:Nat}(h:n<two64):u64 (s64 n)=n:=by
 unfold s64 u64 two63 two64 at *
 split <;> omega
theorem s64_in{n:Nat}(h:n<two64):In64 (s64 n):=by
 unfold In64 s64 two63 two64 at *
 split <;> omega
theorem p8:256 ^ 8=two64:=by decide +kernel
end Go.Own
namespace Go.Own
theorem A.ind{p:A→Prop}(h1:∀n,p (.num n))(h2:∀s,p (.str s))(h3:∀b,p (.bool b))(h4:∀l,(∀x∈l,p x)→p (.list l))(h5:p .none)(h6:p .odd):∀a,p a :=
 fun a=>A.rec (motive_1:=p) (motive_2:=fun l=>∀x∈l,p x) h1 h2 h3 h4 h5 h6 (fun _ h=>by cases h) (fun _ _ hx hr y hy=>by
  rcases List.mem_cons.1 hy with rfl | hy
  ·exact hx
  ·exact hr y hy) a
theorem V.ind{p:V→Prop}(h:∀k n s b l,(∀x∈l,p x)→p (.mk k n s b l)):∀a,p a :=
 fun a=>V.rec (motive_1:=p) (motive_2:=fun l=>∀x∈l,p x) h (fun _ h=>by cases h) (fun _ _ hx hr y hy=>by
  rcases List.mem_cons.1 hy with rfl | hy
  ·exact hx
  ·exact hr y hy) a
theorem ofVs_map:∀l,ofVs l=l.map ofV
 | []=>rfl
 |x :: r=>by rw[ofVs,ofVs_map r];rfl
theorem toVs_map:∀l,toVs l=l.map toV
 | []=>rfl
 |x :: r=>by rw[toVs,toVs_map r];rfl
theorem prs_map:∀l,prs l=l.flatMap pr
 | []=>rfl
 |x :: r=>by rw[prs,prs_map r];rfl
theorem szs_map:∀l d,szs l d=(l.map (sz · d)).sum
 | [],_=>rfl
 |x :: r,d=>by rw[szs,szs_map r];rfl
theorem okAs_all:∀l,okAs l↔∀x∈l,okA x
 | []=>by simp[okAs]
 |x :: r=>by rw[okAs,okAs_all r];simp
theorem fewVs_all:∀l d,fewVs l d=l.all (fewV · d)
 | [],_=>rfl
 |x :: r,d=>by rw[fewVs,fewVs_all r];rfl
theorem ers_zero:∀l d,ers l d=0↔∀x∈l,er x d=0
 | [],_=>by simp[ers]
 |x :: r,d=>by
  rw[ers]
  have:=ers_zero r d
  split
  ·rename_i h;simp[h,this]
  ·rename_i h;simp[h]
theorem ers_app_ok{l:List A}{d:Nat}(h:ers l d=0)(r:List A):ers (l++r) d=ers r d:=by
 induction l with
 |nil=>rfl
 |cons x l ih =>
  rw[ers]at h
  rw[List.cons_append,ers]
  split at h
  ·rename_i hx;rw[if_pos hx];exact ih h
  ·rename_i hx;exact absurd h hx
theorem prs_app(l r:List A):prs (l++r)=prs l++prs r:=by simp[prs_map]
theorem szs_app(l r:List A)(d:Nat):szs (l++r) d=szs l d+szs r d:=by simp[szs_map]
theorem pr_sz(a:A)(d:Nat)(h:er a d=0):(pr a).length=sz a d:=by
 induction a using A.ind generalizing d with
 |h1 n=>simp[pr,sz,be_length]
 |h2 s =>
  rw[er]at h
  split at h
  ·cases h
  ·rename_i hs;rw[sz,if_neg hs];simp[pr,be_length,bys_length];omega
 |h3 b=>simp[pr,sz]
 |h4 l ih =>
  rw[er]at h
  split at h
  ·cases h
  ·rename_i hc
   rw[sz,if_neg hc,pr,List.length_cons,List.length_append,be_length,prs_map,szs_map,List.length_flatMap]
   have e:l.map (fun x=>(pr x).length)=l.map (sz · (d+1)):=List.map_congr_left fun x hx=>ih x hx _ ((ers_zero l _).1 h x hx)
   rw[e];omega
 |h5=>simp[er]at h
 |h6=>simp[er]at h
theorem pr_lt(a:A):∀c∈pr a,c<256:=by
 induction a using A.ind with
 |h1 n=>intro c hc;rw[pr,List.mem_cons]at hc;rcases hc with rfl | hc;omega;exact be_lt _ _ c hc
 |h2 s =>
  intro c hc
  rw[pr,List.mem_cons,List.mem_append]at hc
  rcases hc with rfl | hc | hc
  ·omega
  ·exact be_lt _ _ c hc
  ·exact bys_lt s c hc
 |h3 b=>intro c hc;rw[pr]at hc;cases b <;> simp at hc <;> omega
 |h4 l ih =>
  intro c hc
  rw[pr,List.mem_cons,List.mem_append]at hc
  rcases hc with rfl | hc | hc
  ·omega
  ·exact be_lt _ _ c hc
  ·rw[prs_map,List.mem_flatMap]at hc
   obtain⟨x,hx,hc⟩:=hc
   exact ih x hx c hc
 |h5=>intro c hc;simp[pr]at hc
 |h6=>intro c hc;simp[pr]at hc
theorem take_be(k n:Nat)(t:List Nat):(be k n++t).take k=be k n:=by
 rw[List.take_append_of_le_length (by rw[be_length];omega),List.take_of_length_le (by rw[be_length];omega)]
theorem drop_be(k n:Nat)(t:List Nat):(be k n++t).drop k=t:=by
 rw[List.drop_append_of_le_length (by rw[be_length];omega),List.drop_of_length_le (by rw[be_length];omega),List.nil_append]
theorem rd_pr(a:A)(d:Nat)(hd:d≤8)(h:er a d=0)(ho:okA a)(t:List Nat):rd (8-d) (pr a++t)=some (a,t):=by
 have hb:∃g,rd (8-d)=body g:=by
  cases 8-d with
  |zero=>exact⟨_,rfl⟩
  |succ m=>exact⟨_,rfl⟩
 induction a using A.ind generalizing d t with
 |h1 n =>
  obtain⟨g,hg⟩:=hb
  rw[hg,pr,List.cons_append,body,if_pos rfl,if_neg (by simp[be_length]),take_be,drop_be,val_be,p8,Nat.mod_eq_of_lt (u64_lt n),s64_u64 ho]
 |h2 s =>
  obtain⟨g,hg⟩:=hb
  rw[er]at h
  split at h
  ·cases h
  ·rename_i hs
   have hm:s.size%65536=s.size:=Nat.mod_eq_of_lt (by omega)
   have hl:(bys s).length=s.size:=bys_length s
   rw[hg,pr,List.cons_append,List.append_assoc,body,if_neg (by decide),if_pos rfl,if_neg (by simp[be_length]),take_be,drop_be,val_be,show 256 ^ 2=65536 from rfl,hm,if_neg (by simp[be_length,hl]),
    List.take_append_of_le_length (by omega),List.take_of_length_le (by omega),mkS_bys,List.drop_append_of_le_length (by omega),List.drop_of_length_le (by omega),List.nil_append]
 |h3 b =>
  obtain⟨g,hg⟩:=hb
  rw[hg,pr]
  cases b <;> simp[body]
 |h4 l ih =>
  rw[er]at h
  split at h
  ·cases h
  ·rename_i hc
   obtain⟨m,hm⟩:∃m,8-d=m+1:=⟨8-d-1,by omega⟩
   have hme:8-(d+1)=m:=by omega
   have key:∀(r:List A) (t:List Nat),(∀x∈r,x∈l)→rdL (rd m) r.length (prs r++t)=some (r,t):=by
    intro r
    induction r with
    |nil=>intro t _;rfl
    |cons x r ihr =>
     intro t hr
     have hx:=hr x (by simp)
     have h1:=ih x hx (d+1) (by omega) ((ers_zero l _).1 h x hx) ((okAs_all l).1 ho x hx) (prs r++t) (by
      rw[hme];cases m with
      |zero=>exact⟨_,rfl⟩
      |succ m=>exact⟨_,rfl⟩)
     rw[hme]at h1
     rw[List.length_cons,rdL,prs,List.append_assoc,h1]
     simp only
     rw[ihr t (fun y hy=>hr y (by simp[hy]))]
   have hk:=key l t (fun x hx=>hx)
   have e1:be 1 l.length=[l.length]:=by simp[be];omega
   rw[hm,rd,pr,e1,List.cons_append,body,if_neg (by decide),if_neg (by decide),if_neg (by decide),if_neg (by decide),if_pos rfl]
   show listR (some (rd m)) (l.length :: (prs l++t))=_
   simp only[listR]
   rw[hk]
 |h5=>simp[er]at h
 |h6=>simp[er]at h
theorem rd_body(m:Nat):∃g,rd m=body g∧(g=none∧m=0∨∃k,m=k+1∧g=some (rd k)):=by
 cases m with
 |zero=>exact⟨_,rfl,Or.inl ⟨rfl,rfl⟩⟩
 |succ k=>exact⟨_,rfl,Or.inr ⟨k,rfl,rfl⟩⟩
structure Was(m:Nat)(t:List Nat)(a:A)(t':List Nat):Prop where
 text:t=pr a++t'
 fine:er a (8-m)=0
 ok:okA a
theorem pr_rd:∀(m:Nat) (_:m≤8) (t:List Nat) (_:∀c∈t,c<256) (a:A) (t':List Nat),rd m t=some (a,t')→Was m t a t':=by
 intro m
 induction m with
 |zero =>
  intro hm t hb a t' h
  exact go hm none (Or.inl rfl) t hb a t' h
 |succ k ih =>
  intro hm t hb a t' h
  exact go hm (some (rd k)) (Or.inr ⟨k,rfl,rfl,fun t hb a t' h=>ih (by omega) t hb a t' h⟩) t hb a t' h
where
 go {m:Nat} (hm:m≤8) (g:Option (List Nat→Option (A×List Nat))) (hg:g=none∨∃k,m=k+1∧g=some (rd k)∧∀(t:List Nat),(∀c∈t,c<256)→∀(a:A) (t':List Nat),rd k t=some (a,t')→Was k t a t')
   (t:List Nat) (hb:∀c∈t,c<256) (a:A) (t':List Nat) (h:body g t=some (a,t')):Was m t a t':=by
  cases t with
  |nil=>cases h
  |cons c t =>
   have hbt:∀c∈t,c<256:=fun x hx=>hb x (by simp[hx])
   rw[body]at h
   split at h
   ·rename_i hc
    subst hc
    split at h
    ·cases h
    ·rename_i hl
     simp only[Option.some.injEq,Prod.mk.injEq]at h
     obtain⟨rfl,rfl⟩:=h
     have htl:(t.take 8).length=8:=by simp;omega
     have hv:=val_lt (t.take 8) (fun x hx=>hbt x (List.mem_of_mem_take hx))
     rw[htl,p8]at hv
     have hbv:=be_val (t.take 8) (fun x hx=>hbt x (List.mem_of_mem_take hx))
     rw[htl]at hbv
     refine⟨?_,rfl,s64_in hv⟩
     rw[pr,u64_s64 hv,hbv]
     simp
   ·split at h
    ·rename_i hc
     subst hc
     split at h
     ·cases h
     ·rename_i hl
      split at h
      ·cases h
      ·rename_i hl2
       simp only[Option.some.injEq,Prod.mk.injEq]at h
       obtain⟨rfl,rfl⟩:=h
       have htl:(t.take 2).length=2:=by simp;omega
       have hv:=val_lt (t.take 2) (fun x hx=>hbt x (List.mem_of_mem_take hx))
       rw[htl,show 256 ^ 2=65536 from rfl]at hv
       have hbv:=be_val (t.take 2) (fun x hx=>hbt x (List.mem_of_mem_take hx))
       rw[htl]at hbv
       generalize hn:val (t.take 2)=n at *
       have hpl:((t.drop 2).take n).length=n:=by simp;omega
       have hsz:(mkS ((t.drop 2).take n)).size=n:=by rw[mkS_size,hpl]
       refine⟨?_,?_,trivial⟩
       ·rw[pr,hsz,hbv,bys_mkS _ (fun x hx=>hbt x (List.mem_of_mem_drop (List.mem_of_mem_take hx))),List.cons_append,List.append_assoc,List.take_append_drop,List.take_append_drop]
       ·rw[er,hsz,if_neg (by omega)]
    ·split at h
     ·rename_i hc
      subst hc
      simp only[Option.some.injEq,Prod.mk.injEq]at h
      obtain⟨rfl,rfl⟩:=h
      exact⟨by simp[pr],rfl,trivial⟩
     ·split at h
      ·rename_i hc
       subst hc
       simp only[Option.some.injEq,Prod.mk.injEq]at h
       obtain⟨rfl,rfl⟩:=h
       exact⟨by simp[pr],rfl,trivial⟩
      ·split at h
       ·rename_i hc
        subst hc
        rcases hg with rfl | ⟨k,hk,rfl,ihk⟩
        ·cases h
        ·cases t with
         |nil=>cases h
         |cons n t1 =>
          have key:∀(n:Nat) (t:List Nat),(∀c∈t,c<256)→∀(l:List A) (t':List Nat),rdL (rd k) n t=some (l,t')→t=prs l++t'∧l.length=n∧(∀x∈l,er x (8-k)=0∧okA x):=by
           intro n
           induction n with
           |zero =>
            intro t _ l t' h
            simp only[rdL,Option.some.injEq,Prod.mk.injEq]at h
            obtain⟨rfl,rfl⟩:=h
            exact⟨rfl,rfl,fun x hx=>by cases hx⟩
           |succ n ihn =>
            intro t hb l t' h
            rw[rdL]at h
            split at h
            ·cases h
            ·rename_i x t1 hx
             split at h
             ·cases h
             ·rename_i r t2 hr
              simp only[Option.some.injEq,Prod.mk.injEq]at h
              obtain⟨rfl,rfl⟩:=h
              have w:=ihk t hb x t1 hx
              have hb1:∀c∈t1,c<256:=fun c hc=>hb c (by rw[w.text];simp[hc])
              obtain⟨e1,e2,e3⟩:=ihn t1 hb1 r t2 hr
              refine⟨by rw[w.text,e1];simp[prs],by simp[e2],fun y hy=>?_⟩
              rcases List.mem_cons.1 hy with rfl | hy
              ·exact⟨w.fine,w.ok⟩
              ·exact e3 y hy
          simp only[listR]at h
          split at h
          ·cases h
          ·rename_i l t2 hl
           simp only[Option.some.injEq,Prod.mk.injEq]at h
           obtain⟨rfl,rfl⟩:=h
           obtain⟨e1,e2,e3⟩:=key n t1 (fun c hc=>hbt c (by simp[hc])) l t2 hl
           have hn:n<256:=hbt n (by simp)
           refine⟨?_,?_,(okAs_all l).2 fun x hx=>(e3 x hx).2⟩
           ·rw[pr,e2,e1]
            simp[be,Nat.mod_eq_of_lt hn]
           ·rw[er,if_neg (by omega),ers_zero]
            intro x hx
            have:=(e3 x hx).1
            rwa [show 8-(m)+1=8-k by omega]
       ·cases h
def bnd:Nat→Nat→Nat
 |0,_=>65538
 |f+1,d=>65538+(if d≤1 then 255 else 5)*bnd f (d+1)
theorem bnd_le:bnd 8 0≤100000000000000:=by decide +kernel
theorem sz_bnd(v:V):∀(f d:Nat),f+d=8→fewV v d=true→sz (ofV v) d≤bnd f d:=by
 induction v using V.ind with
 |h k n s b l ih =>
  intro f d hf hv
  have hb:65538≤bnd f d:=by cases f <;> simp[bnd]
  rw[ofV]
  split
  ·rw[sz];omega
  ·split
   ·rw[sz];split <;> omega
   ·split
    ·rw[sz];omega
    ·split
     ·rw[sz]
      split
      ·omega
      ·rename_i hc
       rw[ofVs_map,List.length_map]at hc
       rw[fewV,Bool.and_eq_true,fewVs_all,List.all_eq_true]at hv
       obtain⟨h1,h2⟩:=hv
       simp at h1
       obtain⟨f',rfl⟩:∃f',f=f'+1:=⟨f-1,by omega⟩
       have hs:∀r:List V,(∀x∈r,x∈l)→szs (ofVs r) (d+1)≤r.length*bnd f' (d+1):=by
        intro r
        induction r with
        |nil=>intro _;simp[ofVs,szs]
        |cons x r ihr =>
         intro hr
         rw[ofVs,szs,List.length_cons,Nat.succ_mul]
         have:=ih x (hr x (by simp)) f' (d+1) (by omega) (h2 x (hr x (by simp)))
         have:=ihr (fun y hy=>hr y (by simp[hy]))
         omega
       have h3:=hs l (fun x hx=>hx)
       have h4:l.length*bnd f' (d+1)≤(if d≤1 then 255 else 5)*bnd f' (d+1):=Nat.mul_le_mul_right _ (by split <;> omega)
       rw[bnd]
       omega
     ·rw[sz];omega
theorem bnd_mono:∀(f d:Nat),bnd f (d+1)≤bnd (f+1) d
 |0,d=>by simp[bnd]
 |f+1,d=>by
  rw[bnd,bnd]
  have:=bnd_mono f (d+1)
  split <;> split <;> omega
end Go.Own
namespace Go.Proofs.YtlogjpmdfimgdaaGreatDoor
open Go.RowKit Go.Own
theorem hadd(b o j:Nat):(⟨b,o,none⟩:Addr).add j=⟨b,o+j,none⟩:=by unfold Addr.add;split <;> simp_all
inductive AAt (w:World) (S:Nat→Prop):Value→A→Prop
 |num (n:Int) (h:In64 n):AAt w S (.iface 3 (.int .i64 n)) (.num n)
 |str (s:ByteArray) (h:s.size≤9223372036854775807):AAt w S (.iface 9 (.string s)) (.str s)
 |bool (b:Bool):AAt w S (.iface 4 (.bool b)) (.bool b)
 |none:AAt w S .nilIface .none
 |odd (u:Value):AAt w S (.iface 68 u) .odd
 |nil:AAt w S (.iface 67 (.slice none 0 0)) (.list [])
 |list (b o n cap:Nat) (l:List A) (U:Nat→Value) (hn:l.length=n) (hS:S b) (hb:b<w.heap.size) (hle:n≤cap) (hm:cap≤9223372036854775807)
   (hc:∀j x,l[j]?=some x→w.cell? ⟨b,o+j,none⟩=some (U j)) (ha:∀j x,l[j]?=some x→AAt w S (U j) x):AAt w S (.iface 67 (.slice (some ⟨b,o,none⟩) n cap)) (.list l)
theorem AAt.keep{w w':World}{S T:Nat→Prop}{v:Value}{a:A}(h:AAt w S v a)(hT:∀b,S b→b<w.heap.size→T b)(hz:w.heap.size≤w'.heap.size)(hk:∀b,S b→b<w.heap.size→w'.heap[b]?=w.heap[b]?):AAt w' T v a:=by
 induction h with
 |num n h=>exact .num n h
 |str s h=>exact .str s h
 |bool b=>exact .bool b
 |none=>exact .none
 |odd u=>exact .odd u
 |nil=>exact .nil
 |list b o n cap l U hn hS hb hle hm hc ha ih =>
  refine .list b o n cap l U hn (hT b hS hb) (Nat.lt_of_lt_of_le hb hz) hle hm (fun j x hx=>?_) ih
  rw[World.cell?_of_block (w:=w) (hk b hS hb)]
  exact hc j x hx
def Has(w:World)(v:Value)(a:A):Prop:=AAt w (fun _=>True) v a
theorem AAt.has{w:World}{S:Nat→Prop}{v:Value}{a:A}(h:AAt w S v a):Has w v a:=h.keep (fun _ _ _=>trivial) (Nat.le_refl _) (fun _ _ _=>rfl)
theorem Has.below{w w':World}{v:Value}{a:A}(h:Has w v a)(hb:Below w.heap.size w w'):Has w' v a :=
 AAt.keep h (fun _ _ _=>trivial) hb.size fun b _ hlt=>hb.block b hlt
def HasB(w:World)(B:Nat)(v:Value)(a:A):Prop:=AAt w (fun b=>b<B) v a
theorem Has.low{w:World}{v:Value}{a:A}(h:Has w v a):HasB w w.heap.size v a:=AAt.keep h (fun _ _ h=>h) (Nat.le_refl _) (fun _ _ _=>rfl)
theorem HasB.below{w w':World}{B:Nat}{v:Value}{a:A}(h:HasB w B v a)(hb:Below B w w'):HasB w' B v a :=
 AAt.keep h (fun _ h _=>h) hb.size fun b h _=>hb.block b h
inductive VAt (w:World) (S:Nat→Prop):Value→V→Prop
 |nil (k n:Int) (s:ByteArray) (b:Bool) (hk:In64 k) (hn:In64 n) (hs:s.size≤9223372036854775807):VAt w S (.agg #[.int .i64 k,.int .i64 n,.string s,.bool b,.slice none 0 0]) (.mk k n s b [])
 |empty (k n:Int) (s:ByteArray) (b:Bool) (hk:In64 k) (hn:In64 n) (hs:s.size≤9223372036854775807) (a:Addr) (cap:Nat) (hcap:cap≤9223372036854775807):VAt w S (.agg #[.int .i64 k,.int .i64 n,.string s,.bool b,.slice (some a) 0 cap]) (.mk k n s b [])
 |list (k n:Int) (s:ByteArray) (b:Bool) (hk:In64 k) (hn:In64 n) (hs:s.size≤9223372036854775807) (g o m cap:Nat) (l:List V) (U:Nat→Array Value) (hm:l.length=m) (hS:S g) (hb:g<w.heap.size) (hle:m≤cap) (hcap:cap≤9223372036854775807)
   (hc:∀j x,l[j]?=some x→∀i u,(U j)[i]?=some u→w.cell? ⟨g,o+j*5+i,none⟩=some u) (ha:∀j x,l[j]?=some x→VAt w S (.agg (U j)) x) :
   VAt w S (.agg #[.int .i64 k,.int .i64 n,.string s,.bool b,.slice (some ⟨g,o,none⟩) m cap]) (.mk k n s b l)
theorem VAt.keep{w w':World}{S T:Nat→Prop}{v:Value}{a:V}(h:VAt w S v a)(hT:∀b,S b→b<w.heap.size→T b)(hz:w.heap.size≤w'.heap.size)(hk:∀b,S b→b<w.heap.size→w'.heap[b]?=w.heap[b]?):VAt w' T v a:=by
 induction h with
 |nil k n s b h1 h2 h3=>exact .nil k n s b h1 h2 h3
 |empty k n s b h1 h2 h3 a cap h4=>exact .empty k n s b h1 h2 h3 a cap h4
 |list k n s b h1 h2 h3 g o m cap l U hm hS hb hle hcap hc ha ih =>
  refine .list k n s b h1 h2 h3 g o m cap l U hm (hT g hS hb) (Nat.lt_of_lt_of_le hb hz) hle hcap (fun j x hx i u hu=>?_) ih
  rw[World.cell?_of_block (w:=w) (hk g hS hb)]
  exact hc j x hx i u hu
def Holds(w:World)(v:Value)(x:V):Prop:=VAt w (fun _=>True) v x
theorem VAt.holds{w:World}{S:Nat→Prop}{v:Value}{a:V}(h:VAt w S v a):Holds w v a:=h.keep (fun _ _ _=>trivial) (Nat.le_refl _) (fun _ _ _=>rfl)
theorem Holds.below{w w':World}{v:Value}{a:V}(h:Holds w v a)(hb:Below w.heap.size w w'):Holds w' v a :=
 VAt.keep h (fun _ _ _=>trivial) hb.size fun b _ hlt=>hb.block b hlt
structure Parts(w:World)(S:Nat→Prop)(v:Value)(k n:Int)(s:ByteArray)(b:Bool)(l:List V)(p:Option Addr)(cap:Nat):Prop where
 eq:v=.agg #[.int .i64 k,.int .i64 n,.string s,.bool b,.slice p l.length cap]
 hk:In64 k
 hn:In64 n
 hs:s.size≤9223372036854775807
 hle:l.length≤cap
 hcap:cap≤9223372036854775807
 sub:∀j x,l[j]?=some x→∃g o c0 c1 c2 c3 c4,p=some ⟨g,o,none⟩∧S g∧g<w.heap.size∧VAt w S (.agg #[c0,c1,c2,c3,c4]) x∧w.cell? ⟨g,o+j*5,none⟩=some c0∧w.cell? ⟨g,o+j*5+1,none⟩=some c1∧w.cell? ⟨g,o+j*5+2,none⟩=some c2∧w.cell? ⟨g,o+j*5+3,none⟩=some c3∧w.cell? ⟨g,o+j*5+4,none⟩=some c4
theorem VAt.parts{w:World}{S:Nat→Prop}{v:Value}{k n:Int}{s:ByteArray}{b:Bool}{l:List V}(h:VAt w S v (.mk k n s b l)):∃p cap,Parts w S v k n s b l p cap:=by
 cases h with
 |nil _ _ _ _ h1 h2 h3=>exact⟨none,0,rfl,h1,h2,h3,Nat.le_refl _,by omega,fun j x hx=>by simp at hx⟩
 |empty _ _ _ _ h1 h2 h3 a cap h4=>exact⟨some a,cap,rfl,h1,h2,h3,Nat.zero_le _,h4,fun j x hx=>by simp at hx⟩
 |list _ _ _ _ h1 h2 h3 g o m cap _ U hm hS hb hle hcap hc ha =>
  subst hm
  refine⟨some ⟨g,o,none⟩,cap,rfl,h1,h2,h3,hle,hcap,fun j x hx=>?_⟩
  have h:=ha j x hx
  have c:=hc j x hx
  generalize U j=u at h c
  have hsh:∃c0 c1 c2 c3 c4,u=#[c0,c1,c2,c3,c4]:=by cases h <;> exact⟨_,_,_,_,_,rfl⟩
  obtain⟨c0,c1,c2,c3,c4,rfl⟩:=hsh
  exact⟨g,o,c0,c1,c2,c3,c4,rfl,hS,hb,h,by simpa using c 0 c0 rfl,by simpa using c 1 c1 rfl,by simpa using c 2 c2 rfl,by simpa using c 3 c3 rfl,by simpa using c 4 c4 rfl⟩
theorem cell_new(w:World)(c:Array Value)(t:TypeId)(j:Nat):(w.alloc (.cells c t)).cell? ⟨w.heap.size,j,none⟩=c[j]?:=by
 have h:=heap_alloc_new w (.cells c t)
 simp only[World.cell?,h,Option.isSome_none,Bool.false_eq_true,if_false]
end Go.Proofs.YtlogjpmdfimgdaaGreatDoor
namespace Go.Proofs.YtlogjpmdfimgdaaGreatDoor
open Go.RowKit Go.Own
theorem info20:(Tryz.prog.info? 20).map (fun i=>(i.zero,i.size,i.bytes))=some (some .nilIface,1,16):=by kernel_rfl
def RowA(w:World)(B:Nat)(v:Value)(l:List A):Prop :=
 ∃us,w.ownsRow B 20 1 v l.length us∧∀(i:Nat) (x:A),l[i]?=some x→∃u,us[i]?=some u∧AAt w (fun b=>B≤b∧v.ownBlock≠some b) u x
theorem AAt.fresh{w w':World}{S:Nat→Prop}{v:Value}{a:A}(h:AAt w S v a)(hb:Below w.heap.size w w'):AAt w' S v a :=
 h.keep (fun _ h _=>h) hb.size (fun b _ hlt=>hb.block b hlt)
theorem grown_of_below{w w':World}(h:Below w.heap.size w w')(row:Option Nat):w.grownBy w' row:=⟨h.os,h.tape,h.output,h.size,fun k hk _=>h.block k hk⟩
theorem own_kept{w w':World}{B E z n:Nat}{v:Value}{xs:List Value}(h:w.ownsRow B E z v n xs)(hb:Below w.heap.size w w'):w'.ownsRow B E z v n xs :=
 h.kept (grown_of_below hb none) (by cases hv:v.ownBlock <;> simp)
theorem RowA.below{w w':World}{B:Nat}{v:Value}{l:List A}(h:RowA w B v l)(hb:Below w.heap.size w w'):RowA w' B v l:=by
 obtain⟨us,h1,h2⟩:=h
 refine⟨us,own_kept h1 hb,fun i x hx=>?_⟩
 obtain⟨u,hu,ha⟩:=h2 i x hx
 exact⟨u,hu,ha.fresh hb⟩
theorem RowA.lt{w:World}{B:Nat}{v:Value}{l:List A}(h:RowA w B v l):∀g,v.ownBlock=some g→B≤g∧g<w.heap.size:=by
 obtain⟨us,h1,h2⟩:=h
 exact h1.lt
theorem RowA.shape{w:World}{B:Nat}{v:Value}{l:List A}(h:RowA w B v l):∃p c,v=.slice p l.length c:=by
 obtain⟨us,h1,h2⟩:=h
 rcases h1.2 with⟨rfl,h0⟩ | ⟨g,cap,cur,rfl,_⟩
 ·rw[h0];exact⟨_,_,rfl⟩
 ·exact⟨_,_,rfl⟩
theorem RowA.has{w:World}{B:Nat}{v:Value}{l:List A}(h:RowA w B v l):AAt w (fun b=>B≤b) (.iface 67 v) (.list l):=by
 obtain⟨us,h1,h2⟩:=h
 rcases h1.2 with⟨rfl,h0⟩ | ⟨g,cap,cur,rfl,hb,hg,hle,hm,hs,ht⟩
 ·have:l=[]:=List.eq_nil_of_length_eq_zero h0
  subst this
  exact .nil
 ·refine .list g 0 l.length cap l (fun j=>us.getD j .nilIface) rfl hb (Array.getElem?_eq_some_iff.1 hg).1 hle (by unfold maxLen at hm;exact hm) (fun j x hx=>?_) (fun j x hx=>?_)
  ·obtain⟨u,hu,_⟩:=h2 j x hx
   have:=h1.cells (g:=g) rfl j u hu
   rw[hadd]at this
   rw[this]
   simp[List.getD,hu]
  ·obtain⟨u,hu,ha⟩:=h2 j x hx
   have e:us.getD j .nilIface=u:=by simp[List.getD,hu]
   rw[e]
   exact ha.keep (fun b hb _=>hb.1) (Nat.le_refl _) (fun _ _ _=>rfl)
theorem RowA.made{w:World}{B:Nat}(hB:B≤w.heap.size)(cur:Array Value)(cap:Nat)(hc:cap≤9223372036854775807)(hs:cur.size=cap):RowA (w.alloc (.cells cur 20)) B (.slice (some ⟨w.heap.size,0,none⟩) 0 cap) [] :=
 ⟨[],World.ownsRow_made w cur cap hB (by unfold maxLen;exact hc) (by omega),fun i x hx=>by simp at hx⟩
theorem RowA.snoc{w w1:World}{B:Nat}{v:Value}{l:List A}{us:List Value}{u:Value}{x:A}{o:Obj}{g cap:Nat}
  (h2:∀(i:Nat) (x:A),l[i]?=some x→∃u,us[i]?=some u∧AAt w (fun b=>B≤b∧v.ownBlock≠some b) u x) (hu:AAt w (fun b=>B≤b∧v.ownBlock≠some b) u x) (hul:us.length=l.length)
  (hown:w1.ownsRow B 20 1 (.slice (some ⟨g,0,none⟩) (l.length+1) cap) (l.length+1) (us++[u])) (hg:(w.alloc o).grownBy w1 v.ownBlock) (hat:v.ownBlock=some g∨g=w.heap.size+1) :
  RowA w1 B (.slice (some ⟨g,0,none⟩) (l.length+1) cap) (l++[x]):=by
 have hsz:w.heap.size≤w1.heap.size:=by have:=hg.size;simp at this;omega
 have keep:∀ {u x},AAt w (fun b=>B≤b∧v.ownBlock≠some b) u x→AAt w1 (fun b=>B≤b∧(Value.slice (some ⟨g,0,none⟩) (l.length+1) cap).ownBlock≠some b) u x:=fun {u x} h=>by
  refine h.keep (fun b hb hlt=>⟨hb.1,fun e=>?_⟩) hsz (fun b hb hlt=>?_)
  ·simp only[Value.ownBlock,Option.some.injEq]at e
   subst e
   rcases hat with h | h
   ·exact hb.2 h
   ·omega
  ·rw[hg.block b (by simp;omega) (fun e=>hb.2 e.symm)]
   exact heap_alloc_old w o hlt
 refine⟨us++[u],by simpa using hown,fun i y hy=>?_⟩
 rcases Nat.lt_or_ge i l.length with hi | hi
 ·rw[List.getElem?_append_left hi]at hy
  obtain⟨u',hu',ha⟩:=h2 i y hy
  exact⟨u',by rw[List.getElem?_append_left (by omega)];exact hu',keep ha⟩
 ·rw[List.getElem?_append_right hi]at hy
  have hi0:i-l.length=0:=by
   have:=(List.getElem?_eq_some_iff.1 hy).1
   simp at this;omega
  rw[hi0]at hy
  simp at hy
  subst hy
  exact⟨u,by rw[List.getElem?_append_right (by omega),hul,hi0];rfl,keep hu⟩
theorem AAt.one{w:World}{S:Nat→Prop}{v:Value}{a:A}(h:AAt w S v a):v.oneCell'=true:=by cases h <;> rfl
theorem one_new(w:World)(a:Value)(t:TypeId):∀(j:Nat) u,[a][j]?=some u→(w.alloc (.cells #[a] t)).cell? ((⟨w.heap.size,0,none⟩:Addr).add j)=some u:=fun j u h=>by
 rw[hadd,cell_new]
 simpa using h
theorem one_one{a:Value}(h:a.oneCell'=true):∀u∈[a],u.oneCell'=true:=fun u hu=>by
 simp at hu;subst hu;exact h
theorem AAt.form{w:World}{S:Nat→Prop}{v:Value}{a:A}(h:AAt w S v a):(∃t u,v=.iface t u)∨v=.nilIface:=by
 cases h
 all_goals first | exact Or.inl ⟨_,_,rfl⟩ | exact Or.inr rfl
theorem bs_one{v:Value}(h:(∃t u,v=.iface t u)∨v=.nilIface)(W:World):(Instr.buildSlice 67 1 #[(0,v)]).run Tryz.prog W=.ok (.slice (some ⟨W.heap.size,0,none⟩) 1 1) (W.alloc (.cells #[v] 20)):=by
 rcases h with⟨t,u,rfl⟩ | rfl
 ·kernel_rfl
 ·kernel_rfl
theorem wpList_push{ops:Array Oper}{rest:List Oper}{o:Oper}{a:Act}{Q:Exit→Act→World→Prop}{W:World}(hgd:o.guard=none)(s x:Operand)
  (ho:o.op=.call { callee:=.builtin .append,args:=#[s,x],argTypes:=#[67,67] }) (w:World) (B:Nat) (v:Value) (l:List A) (y:A) (r:Value) (hW:W=w.alloc (.cells #[r] 20)) (hs:a.eval s=v) (hrow:RowA w B v l)
  (hr:AAt w (fun b=>B≤b∧v.ownBlock≠some b) r y) (hx:a.eval x=.slice (some ⟨w.heap.size,0,none⟩) 1 1) (hlen:l.length≤1000000) (hB:B≤w.heap.size)
  (h:∀v' w',RowA w' B v' (l++[y])→Below B w w'→wpList Tryz.prog ops Q rest (a.put o.dst v') w'):wpList Tryz.prog ops Q (o :: rest) a W:=by
 subst hW
 obtain⟨i0,hi,hz0,hz1,hz2⟩:=info_parts info20
 obtain⟨us,hown,hall⟩:=hrow
 refine wpList_append_lies _ hgd s x 67 ho B 20 i0 .nilIface 1 16 Tryz.underlying67 hi hz0 hz1 hz2 rfl (by decide) v l.length us hs (hown.alloc _) ⟨w.heap.size,0,none⟩ 1 1 [r] hx rfl (one_new _ _ _) (one_one hr.one) (by decide) (by unfold maxLen;omega) (by omega) (by simp;omega) (w.heap.size+1) (by simp) ?_
 intro g cap w1 hown1 hgr hat _
 refine h _ w1 (RowA.snoc hall hr (by have:=hown.1;omega) hown1 hgr hat) ?_
 exact((Below.refl B w).alloc hB _).grown hgr (by simp;omega) (fun k hk=>(hown.lt k hk).1)
end Go.Proofs.YtlogjpmdfimgdaaGreatDoor
namespace Go.Proofs.YtlogjpmdfimgdaaGreatDoor
open Go.RowKit Go.Own
def nb(l:List Nat):List Value:=l.map fun (n:Nat)=>Value.int .u8 (n:Int)
theorem nb_append(a b:List Nat):nb (a++b)=nb a++nb b:=by simp[nb]
theorem nb_str(s:ByteArray):Lib.strCells s=nb (bys s):=by
 simp[Lib.strCells,nb,bys]
def OwnB(w:World)(B:Nat)(v:Value)(l:List Nat):Prop:=w.ownsRow B 5 1 v l.length (nb l)
theorem info5:(Tryz.prog.info? 5).map (fun i=>(i.zero,i.size,i.bytes))=some (some (.int .u8 0),1,1):=by kernel_rfl
theorem OwnB.nil(w:World)(B:Nat):OwnB w B (.slice none 0 0) []:=World.ownsRow_nil w B 5 1
theorem conv_nil(w:World):(convert 140 9 (.slice none 0 0)).run Tryz.prog w=.ok (.string (mkS [])) w:=by kernel_rfl
theorem OwnB.str{w:World}{B:Nat}{v:Value}{l:List Nat}(h:OwnB w B v l):(convert 140 9 v).run Tryz.prog w=.ok (.string (mkS l)) w:=by
 rcases h.2 with⟨rfl,h2⟩ | ⟨g,cap,cur,rfl,hb,hg,hc,hm,hs,ht⟩
 ·have:l=[]:=List.eq_nil_of_length_eq_zero h2
  subst this
  exact conv_nil w
 ·have hl:=run_loadCells_list (P:=Tryz.prog) w ⟨g,0,none⟩ (nb l) (fun j u hu=>h.cells (g:=g) rfl j u hu)
  have hl':(loadCells ⟨g,0,none⟩ l.length).run Tryz.prog w=.ok ((l.map fun (n:Nat)=>(n:Int)).map (Value.int .u8)).toArray w:=by
   have e:(nb l).length=l.length:=by simp[nb]
   rw[e]at hl
   rw[hl]
   simp[nb,Function.comp_def]
  rw[run_convert_bytes_string w 140 9 5 _ _ _ Tryz.underlying140 Tryz.underlying5 Tryz.underlying9,run_bytesToString w _ _ _ _ hl',foldl_push_bytes]
  simp[mkS,Function.comp_def]
theorem byte_one(c:Nat):∀u∈[Value.int .u8 (c:Int)],u.oneCell'=true:=fun u hu=>by
 simp at hu;subst hu;rfl
theorem wpList_byte{ops:Array Oper}{rest:List Oper}{o:Oper}{a:Act}{Q:Exit→Act→World→Prop}{W:World}(hgd:o.guard=none)(s x:Operand)
  (ho:o.op=.call { callee:=.builtin .append,args:=#[s,x],argTypes:=#[140,140] }) (w:World) (B:Nat) (v:Value) (l:List Nat) (c:Nat) (hW:W=w.alloc (.cells #[.int .u8 (c:Int)] 5)) (hs:a.eval s=v) (hrow:OwnB w B v l)
  (hx:a.eval x=.slice (some ⟨w.heap.size,0,none⟩) 1 1) (hlen:l.length+1≤140737488355328) (hB:B≤w.heap.size)
  (h:∀v' w',OwnB w' B v' (l++[c])→Below B w w'→wpList Tryz.prog ops Q rest (a.put o.dst v') w'):wpList Tryz.prog ops Q (o :: rest) a W:=by
 subst hW
 obtain⟨i0,hi,hz0,hz1,hz2⟩:=info_parts info5
 refine wpList_append_own _ hgd s x 140 ho B 5 i0 (.int .u8 0) 1 1 Tryz.underlying140 hi hz0 hz1 hz2 rfl (by decide) v l.length (nb l) hs (World.ownsRow.alloc hrow _) ⟨w.heap.size,0,none⟩ 1 1 [.int .u8 (c:Int)] hx rfl (one_new _ _ _) (byte_one c) (by unfold maxLen;omega) (by omega) (by simp;omega) ?_
 intro v' w1 hown1 hgr _
 refine h _ w1 ?_ ?_
 ·unfold OwnB
  rw[nb_append,List.length_append]
  exact hown1
 ·exact((Below.refl B w).alloc hB _).grown hgr (by simp;omega) (fun k hk=>(hrow.lt k hk).1)
theorem wpList_text{ops:Array Oper}{rest:List Oper}{o:Oper}{a:Act}{Q:Exit→Act→World→Prop}{w:World}(hgd:o.guard=none)(x y:Operand)
  (ho:o.op=.call { callee:=.builtin .append,args:=#[x,y],argTypes:=#[140,9] }) (B:Nat) (v:Value) (l:List Nat) (s:ByteArray) (hs:a.eval x=v) (hrow:OwnB w B v l)
  (hx:a.eval y=.string s) (hlen:l.length+s.size≤140737488355328) (hB:B≤w.heap.size)
  (h:∀v' w',OwnB w' B v' (l++bys s)→Below B w w'→wpList Tryz.prog ops Q rest (a.put o.dst v') w'):wpList Tryz.prog ops Q (o :: rest) a w:=by
 obtain⟨i0,hi,hz0,hz1,hz2⟩:=info_parts info5
 refine Lib.wpList_append_own_string _ hgd x y 140 9 ho B 5 i0 Tryz.underlying140 Tryz.underlying9 hi hz0 hz1 hz2 _ _ _ hs hrow s hx (by unfold maxLen;omega) (by omega) hB ?_
 intro v2 w2 hown3 hgrow2 _
 refine h _ w2 ?_ ((Below.refl B w).grown hgrow2 hB (fun k hk=>(hrow.lt k hk).1))
 unfold OwnB
 rw[nb_append,List.length_append,bys_length,←nb_str]
 exact hown3
end Go.Proofs.YtlogjpmdfimgdaaGreatDoor
namespace Go.Proofs.YtlogjpmdfimgdaaGreatDoor
open Go.RowKit Go.Own Go.Maps Go.WideMaps
def RV:Value→Option (DataW Value×List MemPlace):=fun v=>some (.held v,[])
def kl(s:ByteArray):Lit:=.string s.data.toList
theorem kl_inj{s t:ByteArray}(h:kl s=kl t):s=t:=by
 unfold kl at h
 simp only[Lit.string.injEq]at h
 exact ByteArray.ext (Array.toList_inj.1 h)
theorem kl_key(s:ByteArray):WideAt.IsKeyLit (kl s):=trivial
theorem law9:Keyed Tryz.prog 9:=string_keyed Tryz.underlying9
theorem kl_of{s:ByteArray}(h:s.size≤maxLen):keyOf Tryz.prog 9 (.string s)=some (kl s):=keyOf_string_mk Tryz.underlying9 h
def MapV(w:World)(b n:Nat)(f:ByteArray→Option Value):Prop :=
 ∃D:DataW Value,w.ownsMap Tryz.prog 9 RV b n D∧∀s,(f s=none∧has D (kl s)=false)∨∃v,f s=some v∧has D (kl s)=true∧∀z,D.atKey (kl s) z=.held v
theorem MapV.lt{w:World}{b n:Nat}{f:ByteArray→Option Value}(h:MapV w b n f):b<w.heap.size:=by
 obtain⟨D,h1,_⟩:=h
 exact h1.lt
theorem MapV.kept{w w':World}{b n:Nat}{f:ByteArray→Option Value}{row:Option Nat}(h:MapV w b n f)(hg:w.grownBy w' row)(hne:some b≠row):MapV w' b n f:=by
 obtain⟨D,h1,h2⟩:=h
 exact⟨D,h1.kept hg hne,h2⟩
theorem MapV.below{w w':World}{b n:Nat}{f:ByteArray→Option Value}(h:MapV w b n f)(hb:Below w.heap.size w w'):MapV w' b n f:=h.kept (grown_of_below hb none) (by simp)
theorem MapV.mono{w:World}{b n m:Nat}{f:ByteArray→Option Value}(h:MapV w b n f)(hn:n≤m):MapV w b m f:=by
 obtain⟨D,h1,h2⟩:=h
 exact⟨D,h1.mono hn,h2⟩
theorem MapV.made(w:World):MapV (w.alloc (.map #[] 0)) w.heap.size 0 (fun _=>none) :=
 ⟨.map [],World.ownsMap_made w _ _ _,fun _=>Or.inl ⟨rfl,rfl⟩⟩
def putF(f:ByteArray→Option Value)(s:ByteArray)(v:Value):ByteArray→Option Value:=fun t=>if t=s then some v else f t
def delF(f:ByteArray→Option Value)(s:ByteArray):ByteArray→Option Value:=fun t=>if t=s then none else f t
theorem MapV.put{w:World}{b n:Nat}{f:ByteArray→Option Value}(h:MapV w b n f)(hn:n<maxLen)(s:ByteArray)(hs:s.size≤maxLen)(v:Value) :
  ∃w',(Instr.mapUpdate 84 (.map (some b)) (.string s) v).run Tryz.prog w=.ok () w'∧MapV w' b (n+1) (putF f s v)∧w.grownBy w' (some b):=by
 obtain⟨D,h1,h2⟩:=h
 obtain⟨w',hrun,h3,h4⟩:=h1.update law9 Tryz.underlying84 hn (key:=.string s) (val:=v) (kl_of hs) rfl
 refine⟨w',hrun,⟨_,h3,fun t=>?_⟩,h4⟩
 unfold putF
 by_cases e:t=s
 ·subst e
  rw[if_pos rfl]
  exact Or.inr ⟨v,rfl,has_put_same (h1.isMap) (kl_key t) _,fun z=>atKey_put_same (h1.isMap) (kl_key t) _ z⟩
 ·rw[if_neg e]
  have hne:kl t≠kl s:=fun hx=>e (kl_inj hx)
  rcases h2 t with⟨a1,a2⟩ | ⟨u,a1,a2,a3⟩
  ·exact Or.inl ⟨a1,by rw[has_put_other hne];exact a2⟩
  ·exact Or.inr ⟨u,a1,by rw[has_put_other hne];exact a2,fun z=>by rw[atKey_put_other hne];exact a3 z⟩
theorem MapV.del{w:World}{b n:Nat}{f:ByteArray→Option Value}(h:MapV w b n f)(s:ByteArray)(hs:s.size≤maxLen)(ty:TypeId) :
  ∃w',(Builtin.delete_ #[84,9] ty #[.map (some b),.string s]).run Tryz.prog w=.ok (.tuple #[]) w'∧MapV w' b n (delF f s)∧w.grownBy w' (some b):=by
 obtain⟨D,h1,h2⟩:=h
 obtain⟨w',hrun,h3,h4⟩:=h1.drop law9 Tryz.underlying84 (key:=.string s) (kl_of hs) ty
 refine⟨w',hrun,⟨_,h3,fun t=>?_⟩,h4.grown⟩
 unfold delF
 by_cases e:t=s
 ·subst e
  rw[if_pos rfl]
  exact Or.inl ⟨rfl,has_del_same⟩
 ·rw[if_neg e]
  have hne:kl t≠kl s:=fun hx=>e (kl_inj hx)
  rcases h2 t with⟨a1,a2⟩ | ⟨u,a1,a2,a3⟩
  ·exact Or.inl ⟨a1,by rw[has_del_other hne];exact a2⟩
  ·exact Or.inr ⟨u,a1,by rw[has_del_other hne];exact a2,fun z=>by rw[atKey_del_other hne];exact a3 z⟩
theorem zero20(w:World):(zeroValue 20).run Tryz.prog w=.ok .nilIface w:=by kernel_rfl
theorem MapV.look{w:World}{b n:Nat}{f:ByteArray→Option Value}(h:MapV w b n f)(s:ByteArray)(hs:s.size≤maxLen) :
  (Instr.lookup 84 (.map (some b)) (.string s) true).run Tryz.prog w=.ok (.tuple #[(f s).getD .nilIface,.bool (f s).isSome]) w ∧
  (Instr.lookup 84 (.map (some b)) (.string s) false).run Tryz.prog w=.ok ((f s).getD .nilIface) w:=by
 obtain⟨D,h1,h2⟩:=h
 obtain⟨v,ps,hrun,hv⟩:=h1.look_ok law9 Tryz.underlying84 (zero20 w) (zd:=.held .nilIface) (zp:=[]) rfl (key:=.string s) (kl_of hs)
 obtain⟨v',ps',hrun',hv'⟩:=h1.lookup law9 Tryz.underlying84 (zero20 w) (zd:=.held .nilIface) (zp:=[]) rfl (key:=.string s) (kl_of hs)
 unfold RV at hv hv'
 simp only[Option.some.injEq,Prod.mk.injEq]at hv hv'
 rcases h2 s with⟨a1,a2⟩ | ⟨u,a1,a2,a3⟩
 ·rw[atKey_of_not_has a2]at hv hv'
  have e1:=hv.1
  have e2:=hv'.1
  simp only[DataW.held.injEq]at e1 e2
  subst e1 e2
  rw[a1]
  rw[a2]at hrun
  exact⟨hrun,hrun'⟩
 ·rw[a3]at hv hv'
  have e1:=hv.1
  have e2:=hv'.1
  simp only[DataW.held.injEq]at e1 e2
  subst e1 e2
  rw[a1]
  rw[a2]at hrun
  exact⟨hrun,hrun'⟩
def sb(l:List ByteArray):List Value:=l.map Value.string
def OwnS(w:World)(B:Nat)(v:Value)(l:List ByteArray):Prop:=w.ownsRow B 9 1 v l.length (sb l)
theorem info9:(Tryz.prog.info? 9).map (fun i=>(i.zero,i.size,i.bytes))=some (some (.string { data:=#[] }),1,16):=by kernel_rfl
theorem OwnS.nil(w:World)(B:Nat):OwnS w B (.slice none 0 0) []:=World.ownsRow_nil w B 9 1
theorem OwnS.below{w w':World}{B:Nat}{v:Value}{l:List ByteArray}(h:OwnS w B v l)(hb:Below w.heap.size w w'):OwnS w' B v l:=own_kept h hb
theorem strOne(c:ByteArray):∀u∈[Value.string c],u.oneCell'=true:=fun u hu=>by
 simp at hu;subst hu;rfl
theorem wpList_str{ops:Array Oper}{rest:List Oper}{o:Oper}{a:Act}{Q:Exit→Act→World→Prop}{W:World}(hgd:o.guard=none)(s x:Operand)
  (ho:o.op=.call { callee:=.builtin .append,args:=#[s,x],argTypes:=#[29,29] }) (w:World) (B:Nat) (v:Value) (l:List ByteArray) (c:ByteArray) (hW:W=w.alloc (.cells #[.string c] 9)) (hs:a.eval s=v) (hrow:OwnS w B v l)
  (hx:a.eval x=.slice (some ⟨w.heap.size,0,none⟩) 1 1) (hlen:l.length+1≤1000000) (hB:B≤w.heap.size)
  (h:∀v' w',OwnS w' B v' (l++[c])→w.grownBy w' v.ownBlock→Below B w w'→wpList Tryz.prog ops Q rest (a.put o.dst v') w'):wpList Tryz.prog ops Q (o :: rest) a W:=by
 subst hW
 obtain⟨i0,hi,hz0,hz1,hz2⟩:=info_parts info9
 refine wpList_append_own _ hgd s x 29 ho B 9 i0 (.string { data:=#[] }) 1 16 Tryz.underlying29 hi hz0 hz1 hz2 rfl (by decide) v l.length (sb l) hs (World.ownsRow.alloc hrow _) ⟨w.heap.size,0,none⟩ 1 1 [.string c] hx rfl (one_new _ _ _) (strOne c) (by unfold maxLen;omega) (by omega) (by simp;omega) ?_
 intro v' w1 hown1 hgr _
 refine h _ w1 ?_ ?_ ?_
 ·unfold OwnS sb
  rw[List.map_append,List.length_append]
  exact hown1
 ·exact(World.grownBy_alloc w _ v.ownBlock).andThen hgr (fun j hj=>Or.inr hj)
 ·exact((Below.refl B w).alloc hB _).grown hgr (by simp;omega) (fun k hk=>(hrow.lt k hk).1)
end Go.Proofs.YtlogjpmdfimgdaaGreatDoor
namespace Go.Proofs.YtlogjpmdfimgdaaGreatDoor
open Go.RowKit Go.Sort Go.Shelf
def itSort_ren:Go.Shelf.Ren:=⟨fun | 6=>50 | 8=>75 | 9=>74 | 19=>112 | 20=>113 | 21=>103 | 22=>104 | 23=>105 | 24=>106 | 25=>107 | 26=>108 | 27=>109 | 28=>110 | 29=>111 | 36=>131 | 31=>132 | 32=>133 | 37=>134 | 38=>135 | 39=>136 | 41=>148 | n=>n,fun | 27=>29 | 29=>9 | 3=>3 | 32=>154 | 26=>29 | 0=>0 | 44=>195 | 46=>39 | 4=>4 | 36=>188 | 35=>187 | 41=>192 | 5=>5 | 9=>9 | 53=>213 | 57=>217 | 63=>237 | 64=>238 | n=>n,fun | n=>n⟩
theorem itSort:Go.Proofs.SlLaysM.n6 Tryz.prog itSort_ren:={
 mixed:=by kernel_rfl
 f6:=⟨Tryz.f50.name,by decide,Tryz.func50.trans (congrArg some (by kernel_rfl))⟩
 f8:=Tryz.func75.trans (congrArg some (by kernel_rfl))
 f9:=⟨Tryz.f74.name,by decide,Tryz.func74.trans (congrArg some (by kernel_rfl))⟩
 f19:=Tryz.func112.trans (congrArg some (by kernel_rfl))
 f20:=Tryz.func113.trans (congrArg some (by kernel_rfl))
 f21:=⟨Tryz.f103.name,by decide,Tryz.func103.trans (congrArg some (by kernel_rfl))⟩
 f22:=⟨Tryz.f104.name,by decide,Tryz.func104.trans (congrArg some (by kernel_rfl))⟩
 f23:=⟨Tryz.f105.name,by decide,Tryz.func105.trans (congrArg some (by kernel_rfl))⟩
 f24:=⟨Tryz.f106.name,by decide,Tryz.func106.trans (congrArg some (by kernel_rfl))⟩
 f25:=⟨Tryz.f107.name,by decide,Tryz.func107.trans (congrArg some (by kernel_rfl))⟩
 f26:=⟨Tryz.f108.name,by decide,Tryz.func108.trans (congrArg some (by kernel_rfl))⟩
 f27:=⟨Tryz.f109.name,by decide,Tryz.func109.trans (congrArg some (by kernel_rfl))⟩
 f28:=⟨Tryz.f110.name,by decide,Tryz.func110.trans (congrArg some (by kernel_rfl))⟩
 f29:=⟨Tryz.f111.name,by decide,Tryz.func111.trans (congrArg some (by kernel_rfl))⟩
 f31:=Tryz.func132.trans (congrArg some (by kernel_rfl))
 f32:=Tryz.func133.trans (congrArg some (by kernel_rfl))
 f36:=⟨Tryz.f131.name,by decide,Tryz.func131.trans (congrArg some (by kernel_rfl))⟩
 f37:=⟨Tryz.f134.name,by decide,Tryz.func134.trans (congrArg some (by kernel_rfl))⟩
 f38:=⟨Tryz.f135.name,by decide,Tryz.func135.trans (congrArg some (by kernel_rfl))⟩
 f39:=⟨Tryz.f136.name,by decide,Tryz.func136.trans (congrArg some (by kernel_rfl))⟩
 f41:=⟨Tryz.f148.name,by decide,Tryz.func148.trans (congrArg some (by kernel_rfl))⟩
 t0:=Tryz.underlying0
 a0:=Tryz.isAgg0
 z0:=Tryz.sizeOf0
 v0:=Tryz.zeroValue0
 t3:=Tryz.underlying3
 a3:=Tryz.isAgg3
 z3:=Tryz.sizeOf3
 v3:=Tryz.zeroValue3
 t4:=Tryz.underlying4
 a4:=Tryz.isAgg4
 z4:=Tryz.sizeOf4
 v4:=Tryz.zeroValue4
 t5:=Tryz.underlying5
 a5:=Tryz.isAgg5
 z5:=Tryz.sizeOf5
 v5:=Tryz.zeroValue5
 t9:=Tryz.underlying9
 a9:=Tryz.isAgg9
 z9:=Tryz.sizeOf9
 v9:=Tryz.zeroValue9
 t26:=Tryz.underlying29
 a26:=Tryz.isAgg29
 z26:=Tryz.sizeOf29
 v26:=Tryz.zeroValue29
 t27:=Tryz.underlying29
 a27:=Tryz.isAgg29
 z27:=Tryz.sizeOf29
 v27:=Tryz.zeroValue29
 t29:=Tryz.underlying9
 a29:=Tryz.isAgg9
 z29:=Tryz.sizeOf9
 v29:=Tryz.zeroValue9
 t32:=Tryz.underlying154
 a32:=Tryz.isAgg154
 z32:=Tryz.sizeOf154
 v32:=Tryz.zeroValue154
 t35:=Tryz.underlying187
 a35:=Tryz.isAgg187
 z35:=Tryz.sizeOf187
 v35:=Tryz.zeroValue187
 t36:=Tryz.underlying188
 a36:=Tryz.isAgg188
 z36:=Tryz.sizeOf188
 v36:=Tryz.zeroValue188
 t41:=Tryz.underlying192
 a41:=Tryz.isAgg192
 z41:=Tryz.sizeOf192
 v41:=Tryz.zeroValue192
 t44:=Tryz.underlying195
 a44:=Tryz.isAgg195
 z44:=Tryz.sizeOf195
 v44:=Tryz.zeroValue195
 t46:=Tryz.underlying39
 a46:=Tryz.isAgg39
 z46:=Tryz.sizeOf39
 v46:=Tryz.zeroValue39
 t53:=Tryz.underlying213
 a53:=Tryz.isAgg213
 z53:=Tryz.sizeOf213
 v53:=Tryz.zeroValue213
 t57:=Tryz.underlying217
 a57:=Tryz.isAgg217
 z57:=Tryz.sizeOf217
 v57:=Tryz.zeroValue217
 t63:=Tryz.underlying237
 a63:=Tryz.isAgg237
 z63:=Tryz.sizeOf237
 v63:=Tryz.zeroValue237
 t64:=Tryz.underlying238
 a64:=Tryz.isAgg238
 z64:=Tryz.sizeOf238
 v64:=Tryz.zeroValue238 }
end Go.Proofs.YtlogjpmdfimgdaaGreatDoor
namespace Go.Own
def sortS(l:List ByteArray):List ByteArray:=((l.map fun s=>s.data.toList).mergeSort fun x y=>decide (x≤y)).map fun x=>⟨x.toArray⟩
theorem sortS_length(l:List ByteArray):(sortS l).length=l.length:=by
 unfold sortS
 rw[List.length_map,(List.mergeSort_perm _ _).length_eq,List.length_map]
theorem sortS_perm(l:List ByteArray):(sortS l).Perm l:=by
 unfold sortS
 have h:=(List.mergeSort_perm (l.map fun s=>s.data.toList) (fun x y=>decide (x≤y))).map fun x=>(⟨x.toArray⟩:ByteArray)
 refine h.trans ?_
 rw[List.map_map]
 have e:((fun x:List UInt8=>(⟨x.toArray⟩:ByteArray)) ∘ fun s:ByteArray=>s.data.toList)=id:=by
  funext s
  simp
 rw[e,List.map_id]
theorem sortS_rises(l:List ByteArray):(sortS l).Pairwise fun a b=>a.data.toList≤b.data.toList:=by
 unfold sortS
 have h:=List.pairwise_mergeSort (le:=fun (x y:List UInt8)=>decide (x≤y)) (fun a b c h1 h2=>by
  simp only[decide_eq_true_eq]at *
  exact List.le_trans h1 h2) (fun a b=>by
  simp only[Bool.or_eq_true,decide_eq_true_eq]
  exact List.le_total a b) (l.map fun s=>s.data.toList)
 rw[List.pairwise_map]
 exact h.imp fun {a b} hab=>by simpa using hab
def Rises(f:ByteArray→Option Value)(p:ByteArray→Bool)(ks:List ByteArray):Prop :=
 ks.Pairwise (fun a b=>a.data.toList<b.data.toList)∧∀s,s∈ks↔((f s).isSome=true∧p s=true)
theorem rises_of{f:ByteArray→Option Value}{p:ByteArray→Bool}{l:List ByteArray}(hn:l.Nodup)(hm:∀s,s∈l↔((f s).isSome=true∧p s=true)):Rises f p (sortS l):=by
 refine⟨?_,fun s=>by rw[(sortS_perm l).mem_iff];exact hm s⟩
 have h1:=sortS_rises l
 have h2:(sortS l).Nodup:=(sortS_perm l).nodup_iff.2 hn
 have h3:=h1.and h2
 refine h3.imp fun {a b} ⟨hab,hne⟩=>?_
 by_cases h:a.data.toList<b.data.toList
 ·exact h
 ·exact absurd (ByteArray.ext (Array.toList_inj.1 (List.le_antisymm hab (List.not_lt.1 h)))) hne
theorem Rises.unique{f:ByteArray→Option Value}{p:ByteArray→Bool}{l m:List ByteArray}(h:Rises f p l)(k:Rises f p m):l=m:=by
 have hperm:l.Perm m:=by
  refine(List.perm_ext_iff_of_nodup ?_ ?_).2 fun s=>by rw[h.2,k.2]
  ·exact h.1.imp fun {a b} hab e=>by subst e;exact List.lt_irrefl _ hab
  ·exact k.1.imp fun {a b} hab e=>by subst e;exact List.lt_irrefl _ hab
 exact hperm.eq_of_pairwise (fun a b _ _ h1 h2=>absurd (List.lt_trans h1 h2) (List.lt_irrefl _)) h.1 k.1
end Go.Own
namespace Go.Proofs.YtlogjpmdfimgdaaGreatDoor
open Go.RowKit Go.Own Go.Maps Go.WideMaps Go.Sort
theorem enc_str(s:ByteArray):encStr s.data.toList=.string s:=by
 simp[encStr]
theorem sort_any(w:World)(B:Nat)(v:Value)(l:List ByteArray)(h:OwnS w B v l)(hl:l.length≤1000000) :
  Calls Tryz.prog 50 #[v] w fun e w'=>e=.returned (.tuple #[])∧OwnS w' B v (sortS l)∧w.grownBy w' v.ownBlock:=by
 rcases h.2 with⟨rfl,h0⟩ | ⟨g,cap,cur,rfl,hb,hg,h1,h2,h3,h4⟩
 ·have:l=[]:=List.eq_nil_of_length_eq_zero h0
  subst this
  refine(AnyM.slices_Sort_string_none itSort none 0 w).mono fun e w' ⟨he,hw⟩=>?_
  subst hw
  exact⟨he,(by rw[show sortS ([]:List ByteArray)=[] by simp[sortS]];exact h),⟨rfl,rfl,rfl,Nat.le_refl _,fun _ _ _=>rfl⟩⟩
 ·have hlen:(l.map fun s=>s.data.toList).length=l.length:=List.length_map _
  have ht:cur.toList.take (l.map fun s=>s.data.toList).length=(l.map fun s=>s.data.toList).map encStr:=by
   rw[hlen]
   rw[Nat.mul_one]at h4
   rw[h4]
   simp[sb,List.map_map,Function.comp_def,enc_str]
  have hH:=holds_of_block hg ht
  have:=AnyM.slices_Sort_string itSort g 0 cap (l.map fun s=>s.data.toList) w hH (Array.getElem?_eq_some_iff.1 hg).1 (by rw[hlen];omega)
  rw[hlen]at this
  refine this.mono fun e w' ⟨he,n,os,hw⟩=>⟨he,?_,?_⟩
  ·subst hw
   have h5:=ownsRow_sorted (w:=w) (base:=B) (g:=g) (cap:=cap) (n:=n) (e:=9) (os:=os) (ss:=l.map fun s=>s.data.toList) (ts:=(l.map fun s=>s.data.toList).mergeSort fun x y=>decide (x≤y)) (by rw[(List.mergeSort_perm _ _).length_eq]) hb hg (by rw[hlen];exact h1) h2 h3
   unfold OwnS
   rw[sortS_length]
   rw[hlen]at h5
   have e2:sb (sortS l)=((l.map fun s=>s.data.toList).mergeSort fun x y=>decide (x≤y)).map encStr:=by
    simp[sb,sortS,List.map_map,Function.comp_def]
   rw[e2]
   exact h5
  ·subst hw
   exact grownBy_sorted _
end Go.Proofs.YtlogjpmdfimgdaaGreatDoor

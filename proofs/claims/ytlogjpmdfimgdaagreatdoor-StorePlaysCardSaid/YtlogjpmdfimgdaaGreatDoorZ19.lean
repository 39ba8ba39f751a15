/- The library's strings.Repeat and strings.Builder at this program: laid by the kit's own command and written out in plain words; strings.Clone. No condition but the sizes. -/
import Derived.Shelf.Strings.Repeat
import Derived.Shelf.Abstract
import Derived.Test.YtlogjpmdfimgdaaGreatDoorChecked
import Derived.Test.YtlogjpmdfimgdaaGreatDoorZ04
import Derived.Test.YtlogjpmdfimgdaaGreatDoorZ12
namespace Go.Proofs.YtlogjpmdfimgdaaGreatDoor.Jf
open Go.RowKit Go.Own.Jf Go.Shelf
def layRepeat_ren:Go.Shelf.Ren:=⟨fun | 105=>122 | 212=>139 | 99=>31 | 165=>140 | 166=>96 | 170=>141 | 169=>97 | 263=>149 | 264=>150 | 206=>51 | 240=>127 | 241=>151 | 276=>143 | 277=>158 | n=>n,fun | 9=>9 | 3=>3 | 4=>4 | 20=>20 | 0=>0 | 46=>154 | 109=>223 | 5=>5 | 72=>177 | 76=>181 | 51=>195 | 146=>240 | 53=>39 | 148=>242 | 70=>175 | 37=>140 | 75=>180 | 127=>209 | 164=>227 | 80=>143 | n=>n,fun | n=>n⟩
theorem layRepeat:Go.Proofs.Lays.n105 Tryz.prog layRepeat_ren:={
 mixed:=by kernel_rfl
 f99:=Tryz.func31.trans (congrArg some (by kernel_rfl))
 f105:=Tryz.func122.trans (congrArg some (by kernel_rfl))
 f165:=Tryz.func140.trans (congrArg some (by kernel_rfl))
 f166:=Tryz.func96.trans (congrArg some (by kernel_rfl))
 f169:=Tryz.func97.trans (congrArg some (by kernel_rfl))
 f170:=Tryz.func141.trans (congrArg some (by kernel_rfl))
 f206:=Tryz.func51.trans (congrArg some (by kernel_rfl))
 f212:=Tryz.func139.trans (congrArg some (by kernel_rfl))
 f240:=Tryz.func127.trans (congrArg some (by kernel_rfl))
 f241:=Tryz.func151.trans (congrArg some (by kernel_rfl))
 f263:=Tryz.func149.trans (congrArg some (by kernel_rfl))
 f264:=Tryz.func150.trans (congrArg some (by kernel_rfl))
 f276:=Tryz.func143.trans (congrArg some (by kernel_rfl))
 f277:=Tryz.func158.trans (congrArg some (by kernel_rfl))
 t0:=Tryz.underlying0
 a0:=Tryz.isAgg0
 z0:=Tryz.sizeOf0
 v0:=Tryz.zeroValue0
 t3:=Tryz.underlying3
 a3:=Tryz.isAgg3
 z3:=Tryz.sizeOf3
 v3:=Tryz.zeroValue3
 t4:=Tryz.underlying4
 a4:=Tryz.isAgg4
 z4:=Tryz.sizeOf4
 v4:=Tryz.zeroValue4
 t5:=Tryz.underlying5
 a5:=Tryz.isAgg5
 z5:=Tryz.sizeOf5
 v5:=Tryz.zeroValue5
 t9:=Tryz.underlying9
 a9:=Tryz.isAgg9
 z9:=Tryz.sizeOf9
 v9:=Tryz.zeroValue9
 t20:=Tryz.underlying20
 a20:=Tryz.isAgg20
 z20:=Tryz.sizeOf20
 v20:=Tryz.zeroValue20
 t37:=Tryz.underlying140
 a37:=Tryz.isAgg140
 z37:=Tryz.sizeOf140
 v37:=Tryz.zeroValue140
 t46:=Tryz.underlying154
 a46:=Tryz.isAgg154
 z46:=Tryz.sizeOf154
 v46:=Tryz.zeroValue154
 t51:=Tryz.underlying195
 a51:=Tryz.isAgg195
 z51:=Tryz.sizeOf195
 v51:=Tryz.zeroValue195
 t53:=Tryz.underlying39
 a53:=Tryz.isAgg39
 z53:=Tryz.sizeOf39
 v53:=Tryz.zeroValue39
 t70:=Tryz.underlying175
 a70:=Tryz.isAgg175
 z70:=Tryz.sizeOf175
 v70:=Tryz.zeroValue175
 t72:=Tryz.underlying177
 a72:=Tryz.isAgg177
 z72:=Tryz.sizeOf177
 v72:=Tryz.zeroValue177
 t75:=Tryz.underlying180
 a75:=Tryz.isAgg180
 z75:=Tryz.sizeOf180
 v75:=Tryz.zeroValue180
 t76:=Tryz.underlying181
 a76:=Tryz.isAgg181
 z76:=Tryz.sizeOf181
 v76:=Tryz.zeroValue181
 t109:=Tryz.underlying223
 a109:=Tryz.isAgg223
 z109:=Tryz.sizeOf223
 v109:=Tryz.zeroValue223
 t127:=Tryz.underlying209
 a127:=Tryz.isAgg209
 z127:=Tryz.sizeOf209
 v127:=Tryz.zeroValue209
 t146:=Tryz.underlying240
 a146:=Tryz.isAgg240
 z146:=Tryz.sizeOf240
 v146:=Tryz.zeroValue240
 t148:=Tryz.underlying242
 a148:=Tryz.isAgg242
 z148:=Tryz.sizeOf242
 v148:=Tryz.zeroValue242
 t164:=Tryz.underlying227
 a164:=Tryz.isAgg227
 z164:=Tryz.sizeOf227
 v164:=Tryz.zeroValue227 }
theorem layExtra:Builder.Extra Tryz.prog layRepeat_ren:={
 sizeBuilder:=by kernel_rfl
 liesBuilder:=by kernel_rfl
 t5:=layRepeat.t5
 a5:=layRepeat.a5
 z5:=layRepeat.z5
 v5:=layRepeat.v5
 infoByte:=by kernel_rfl
 cellsByte:=by kernel_rfl
 sizeByte:=by kernel_rfl
 neB5:=by decide }
theorem below_wd{w W:World}{l g:List Obj}{d:Nat}(h:Below (w.heap.size+l.length) (Wd w (l++g) d) W):∃g' d',W=Wd w (l++g') d':=by
 have hs:=h.size
 rw[Wd_size,List.length_append]at hs
 refine⟨W.heap.toList.drop (w.heap.size+l.length),W.drawn,?_⟩
 have e:W.heap=w.heap++(l++W.heap.toList.drop (w.heap.size+l.length)).toArray:=by
  apply Array.ext'
  rw[Array.toList_append,List.toList_toArray,←List.append_assoc]
  have h1:W.heap.toList.take (w.heap.size+l.length)=w.heap.toList++l:=by
   apply List.ext_getElem?
   intro i
   rw[List.getElem?_take]
   split
   ·rename_i hi
    have hb:=h.block i hi
    rw[Array.getElem?_toList,hb]
    simp only[Wd,Array.getElem?_append,List.getElem?_append,List.getElem?_toArray,Array.length_toList,Array.getElem?_toList]
    by_cases h2:i<w.heap.size
    ·rw[if_pos h2,if_pos h2]
    ·rw[if_neg h2,if_neg h2,if_pos (by omega)]
   ·rename_i hi
    rw[List.getElem?_eq_none (by simp;omega)]
  rw[←h1,List.take_append_drop]
 have h1:=h.os
 have h2:=h.tape
 have h3:=h.output
 rcases W with⟨hp,tp,dr,os,out⟩
 simp only[Wd]at h1 h2 h3
 subst h1 h2 h3
 exact congrArg (fun x=>World.mk x w.tape dr w.os w.output) e
theorem below_grows{w W:World}{l:List Obj}{d:Nat}(h:Below (Wd w l d).heap.size (Wd w l d) W):∃g d',W=Wd w (l++g) d':=by
 rw[Wd_size]at h
 have h':Below (w.heap.size+l.length) (Wd w (l++[]) d) W:=by rw[List.append_nil];exact h
 exact below_wd h'
theorem repeatL_mk(b:UInt8):∀n,Lib.repeatL [b] n=List.replicate n b
 |0=>rfl
 |n+1=>by
  have:=Lib.repeatL_replicate b 1 (n+1)
  simpa using this
theorem repeat_any(w:World)(l:List Obj)(d n:Nat)(hn:n≤1000000) :
  Calls Tryz.prog 122 #[.string ⟨#[0]⟩,.int .i64 (n:Int)] (Wd w l d) fun e w'=>e=.returned (.string (mkS (rep n)))∧∃g d',w'=Wd w (l++g) d':=by
 refine(Any.strings_Repeat layRepeat layExtra ⟨#[0]⟩ n (Wd w l d) (by omega) (by show 1*n≤_;omega)).mono ?_
 rintro e w' ⟨rfl,h⟩
 refine⟨?_,below_grows h⟩
 congr 2
 show ByteArray.mk _=ByteArray.mk _
 congr 2
 show Lib.repeatL [0] n=(rep n).map UInt8.ofNat
 rw[repeatL_mk,rep,List.map_replicate];rfl
def Bu(w:World)(l:List Obj)(W:World)(bs:List Nat):Prop :=
 (∃g d,W=Wd w (l++g) d)∧Lib.IsBuilder 177 5 (w.heap.size+l.length) (w.heap.size+l.length) (cv .u8 bs).toList W
theorem strCells_cv(s:ByteArray):Lib.strCells s=(cv .u8 (bys s)).toList:=by simp[Lib.strCells,cv,bys]
theorem byteCells_cv(l:List Nat)(h:B8 l):Lib.byteCells (l.map UInt8.ofNat)=(cv .u8 l).toList:=by
 simp only[Lib.byteCells,cv,List.map_map]
 apply List.map_congr_left
 intro n hn
 have:=h n hn
 simp;omega
theorem bu_write{w:World}{l:List Obj}{W:World}{bs:List Nat}(h:Bu w l W bs)(s:ByteArray)(hs:bs.length+s.size≤1099511627776) :
  Calls Tryz.prog 96 #[.pointer (some ⟨w.heap.size+l.length,0,none⟩),.string s] W fun e w'=>e=.returned (.tuple #[.int .i64 s.size,.nilIface])∧Bu w l w' (bs++bys s):=by
 obtain⟨⟨g,d,rfl⟩,hb⟩:=h
 have hsz:w.heap.size+l.length≤(Wd w (l++g) d).heap.size:=by rw[Wd_size];simp
 refine(Any.Builder_WriteString { layRepeat with } layExtra _ _ _ s _ hb (by simp[cv];omega) hsz).mono ?_
 rintro e w' ⟨rfl,h1,h2⟩
 refine⟨rfl,below_wd h2,.inr ?_⟩
 have e:(cv .u8 bs).toList++Lib.strCells s=(cv .u8 (bs++bys s)).toList:=by rw[strCells_cv];simp[cv]
 rw[e]at h1
 exact h1
theorem bu_string{w:World}{l:List Obj}{W:World}{bs:List Nat}(h:Bu w l W bs)(h8:B8 bs) :
  Calls Tryz.prog 97 #[.pointer (some ⟨w.heap.size+l.length,0,none⟩)] W fun e w'=>e=.returned (.string (mkS bs))∧∃g d,w'=Wd w (l++g) d:=by
 obtain⟨⟨g,d,rfl⟩,hb⟩:=h
 have hsz:w.heap.size+l.length≤(Wd w (l++g) d).heap.size:=by rw[Wd_size];simp
 rw[←byteCells_cv bs h8]at hb
 refine(Any.Builder_String_any { layRepeat with } layExtra _ _ (bs.map UInt8.ofNat) _ hb hsz).mono ?_
 rintro e w' ⟨rfl,h2⟩
 exact⟨rfl,below_wd h2⟩
theorem bu_new(w:World)(l:List Obj)(d:Nat):Bu w l (Wd w (l++[.cells #[.pointer none,.slice none 0 0] 177 (0,0)]) d) []:=by
 refine⟨⟨_,_,rfl⟩,.inl ⟨Nat.le_refl _,.slice none 0 0,?_,?_,by simp[Value.ownBlock]⟩⟩
 ·rw[Wd_at];simp
 ·exact World.ownsRow_nil ..
end Go.Proofs.YtlogjpmdfimgdaaGreatDoor.Jf

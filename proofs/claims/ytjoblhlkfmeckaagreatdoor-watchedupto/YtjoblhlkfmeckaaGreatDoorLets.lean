import Derived.Test.YtjoblhlkfmeckaaGreatDoorQ10
import Derived.Test.YtjoblhlkfmeckaaGreatDoorRows
import Derived.Shelf.Unicode.ValidAny
import Derived.Lib.LaidU8T
import Derived.OpenShut
set_option maxHeartbeats 2000000
set_option maxRecDepth 8000
set_option linter.unusedVariables false
set_option linter.unusedSimpArgs false
open Option renaming none → od,some → lp
open Go renaming World → qq,Value → tj
open Go.Lib renaming VarReads → nh
open Go.DataW renaming trod_int → zj
open Go.Value renaming int → rl,bool → gf
open Go.IntKind renaming i64 → tz,u8 → dc
open Go.Proofs.Tryz Orch
namespace Go.Proofs.YtjoblhlkfmeckaaGreatDoor
open Go.RowKit
def Tryz.ren196:Go.Shelf.Ren:=⟨fun|196=>208|259=>226|n=>n,fun|0=>0|3=>3|4=>4|5=>5|9=>9|12=>12|46=>63|53=>110|119=>301|138=>303|139=>304|n=>n,fun|3=>6|4=>7|n=>n⟩
set_option maxRecDepth 100000 in
theorem Tryz.lays196:Go.Proofs.Lays.n196 prog Tryz.ren196:=
 {mixed:=Aa,
  f196:=func208.trans (aG lp Aa),
  f259:=func226.trans (aG lp Aa),
  t0:=underlying0,
  a0:=isAgg0,
  z0:=sizeOf0,
  v0:=zeroValue0,
  t3:=underlying3,
  a3:=isAgg3,
  z3:=sizeOf3,
  v3:=zeroValue3,
  t4:=underlying4,
  a4:=isAgg4,
  z4:=sizeOf4,
  v4:=zeroValue4,
  t5:=underlying5,
  a5:=isAgg5,
  z5:=sizeOf5,
  v5:=zeroValue5,
  t9:=underlying9,
  a9:=isAgg9,
  z9:=sizeOf9,
  v9:=zeroValue9,
  t12:=underlying12,
  a12:=isAgg12,
  z12:=sizeOf12,
  v12:=zeroValue12,
  t46:=underlying63,
  a46:=isAgg63,
  z46:=sizeOf63,
  v46:=zeroValue63,
  t53:=underlying110,
  a53:=isAgg110,
  z53:=sizeOf110,
  v53:=zeroValue110,
  t119:=underlying301,
  a119:=isAgg301,
  z119:=sizeOf301,
  t138:=underlying303,
  a138:=isAgg303,
  z138:=sizeOf303,
  v138:=zeroValue303,
  t139:=underlying304,
  a139:=isAgg304,
  z139:=sizeOf304,
  v139:=zeroValue304,
  g3:=Aa,
  g4:=by kernel_rfl }
theorem P4{w:qq}{g o:Nat}{v:tj}(h:w.cell? ⟨g,o,od⟩=lp v):g<w.heap.size:=by
 rcases cO g w.heap.size with hl|hl
 ·exact hl
 ·unfold World.cell? at h
  simp [cA hl] at h
def ER(s:ByteArray):Bool:=Lib.validD s.data.toList
theorem utf:Jk ER (Lib.Utf8Tabs 6 7) where
 gives:=fun s w hT hs=>Any.utf8_ValidString Tryz.lays196 s w Ab hT
 kept:=fun {B w w'} hB hb h=>have hB4:8<=B:=hB
  ⟨fun c hc=>(hb.cell Ag).trans (h.1 c hc),fun i hi=>⟨(hb.cell Ag).trans (h.2 i hi).1,(hb.cell Ag).trans (h.2 i hi).2⟩⟩
 size:=fun {w} h=>P4 (h.2 0 Ab).1
theorem GN:(Rows.laid_unicode_utf8_acceptRanges:DataW Unit)=Lib.acceptData:=Aa
theorem NS:Rows.laid_unicode_utf8_first=Lib.firstData:=Aa
theorem Abg:prog.globalNamed "orchard/value.letters" = lp 5:=Aa
theorem NY:(prog.globals[5]?).map (·.type)=lp 289:=Aa
theorem SK:prog.cellsOf 289=49:=Aa
theorem FG:prog.cellsOf 193=7:=Aa
theorem ML:prog.cellsOf 3=1:=Aa
theorem SJ:prog.cellsOf 191=1:=Aa
theorem MM:prog.cellsOf 4=1:=Aa
theorem WW:prog.cellsOf 5=1:=Aa
theorem Ka{w:qq}{base:Nat}{sp:Nat->Bool}{held:Bool}{fuel:Nat}{cs:List tj}{p:List MemPlace}{a b c d e g:Int}{f:Bool}(h:DataW.trod (fun _=>()) prog w base sp held fuel 193 cs=lp (.agg [.lit (.int dc a),.lit (.int tz b),.lit (.int tz c),.lit (.int tz d),.lit (.int tz e),.lit (.bool f),.lit (.int dc g)],p)) :
  cs = [rl dc a,rl tz b,rl tz c,rl tz d,rl tz e,gf f,rl dc g]:=by
 obtain⟨xs,n,_,hx,hl,hlen,hf⟩:=DataW.trod_struct underlying193 h
 match xs,hlen with
 | [x0,x1,x2,x3,x4,x5,x6],_=>
  rw [FG] at hl
  match cs,hl with
  | [v0,v1,v2,v3,v4,v5,v6],_=>
   have h0:=hf 0 _ rfl
   have h1:=hf 1 _ rfl
   have h2:=hf 2 _ rfl
   have h3:=hf 3 _ rfl
   have h4:=hf 4 _ rfl
   have h5:=hf 5 _ rfl
   have h6:=hf 6 _ rfl
   simp [ML,MM,WW,SJ] at h0 h1 h2 h3 h4 h5 h6
   obtain⟨z0,e0,rfl,_⟩:=zj underlying5 h0
   obtain⟨z1,e1,rfl,_⟩:=zj underlying191 h1
   obtain⟨z2,e2,rfl,_⟩:=zj underlying3 h2
   obtain⟨z3,e3,rfl,_⟩:=zj underlying3 h3
   obtain⟨z4,e4,rfl,_⟩:=zj underlying3 h4
   obtain⟨z5,e5,rfl⟩:=DataW.trod_bool underlying4 h5
   obtain⟨z6,e6,rfl,_⟩:=zj underlying5 h6
   simp at hx e0 e1 e2 e3 e4 e5 e6
   obtain⟨⟨rfl,rfl,rfl,rfl,rfl,rfl,rfl⟩,_⟩:=hx
   subst e0 e1 e2 e3 e4 e5 e6
   rfl
theorem Tr{α:Type}(l:List α)(k:Nat):l.drop k=(l.drop k).take 7++l.drop (k+7):=by
 rw [←List.drop_drop]
 exact(cZ 7 (l.drop k)).symm
theorem U3{w:qq}(h:nh prog w "orchard/value.letters" Rows.laid_orchard_value_letters):Table w:=by
 obtain⟨g,t,cs,fuel,p,hg,hty,hvar,hd⟩:=h
 obtain rfl:=aC (Abg.symm.trans hg)
 obtain rfl:=aC (NY.symm.trans hty)
 have hlen:cs.toList.length=49:=by
  obtain⟨_,_,_,_,hl,_⟩:=DataW.trod_array Tryz.underlying289 hd
  rw [hl,SK]
 have el:∀i,i<7->∃fuel' d q,_:=fun i hi=>Lib.array_elem Tryz.underlying289 hd i hi
 obtain⟨_,_,_,d0,t0⟩:=el 0 Ab
 obtain⟨_,_,_,d1,t1⟩:=el 1 Ab
 obtain⟨_,_,_,d2,t2⟩:=el 2 Ab
 obtain⟨_,_,_,d3,t3⟩:=el 3 Ab
 obtain⟨_,_,_,d4,t4⟩:=el 4 Ab
 obtain⟨_,_,_,d5,t5⟩:=el 5 Ab
 obtain⟨_,_,_,d6,t6⟩:=el 6 Ab
 simp only [List.getElem?_cons_zero,List.getElem?_cons_succ,aL] at d0 d1 d2 d3 d4 d5 d6
 subst d0 d1 d2 d3 d4 d5 d6
 rw [FG] at t0 t1 t2 t3 t4 t5 t6
 have c0:=Ka t0
 have c1:=Ka t1
 have c2:=Ka t2
 have c3:=Ka t3
 have c4:=Ka t4
 have c5:=Ka t5
 have c6:=Ka t6
 have e:cs.toList=Ii.toList:=by
  have k0:=Tr cs.toList 0
  have k1:=Tr cs.toList 7
  have k2:=Tr cs.toList 14
  have k3:=Tr cs.toList 21
  have k4:=Tr cs.toList 28
  have k5:=Tr cs.toList 35
  have k6:=Tr cs.toList 42
  have k7:cs.toList.drop 49 = []:=List.drop_eq_nil_of_le Ab
  simp only [eH,Nat.one_mul,Nat.reduceMul,Nat.reduceAdd] at c0 c1 c2 c3 c4 c5 c6 k0 k1 k2 k3 k4 k5 k6
  rw [k7,c6] at k6
  rw [k6,c5] at k5
  rw [k5,c4] at k4
  rw [k4,c3] at k3
  rw [k3,c2] at k2
  rw [k2,c1] at k1
  rw [k1,c0] at k0
  exact k0
 have e':cs=Ii:=Array.toList_inj.1 e
 subst e'
 simp only [World.var?,Abg,cW] at hvar
 split at hvar
 ·rename_i c ty fr hb
  injection hvar with hvar
  subst hvar
  exact⟨ty,fr,hb⟩
 ·cases hvar
theorem Vv{w:qq}(h1:nh prog w "unicode/utf8.first" Rows.laid_unicode_utf8_first)(h2:nh prog w "unicode/utf8.acceptRanges" Rows.laid_unicode_utf8_acceptRanges):Lib.Utf8Tabs 6 7 w:=by
 rw [NS] at h1
 rw [GN] at h2
 exact utf8Tabs_of_readsT (U8Types.of196 Tryz.lays196) ⟨Aa,Aa,Aa,Aa,Aa,Aa,Aa⟩ h1 h2
end Go.Proofs.YtjoblhlkfmeckaaGreatDoor

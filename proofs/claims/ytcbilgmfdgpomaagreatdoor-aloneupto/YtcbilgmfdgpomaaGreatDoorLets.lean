import Derived.Test.YtcbilgmfdgpomaaGreatDoorQ06
import Derived.Test.YtcbilgmfdgpomaaGreatDoorRows
import Derived.Shelf.Unicode.ValidAny
import Derived.Lib.LaidU8T
set_option maxHeartbeats 8000000
set_option maxRecDepth 8000
set_option linter.all false
open Option renaming some → lj
open Array renaming size → y
open Go renaming World → U
open Go.Value renaming int → uu,bool → gd
open Go.DataW renaming trod_int → kh
open Go.Lib renaming VarReads → zy
open Go.IntKind renaming i64 → gh,u8 → qg
open Go.Proofs.Tryz Orch
namespace Go.Proofs.YtcbilgmfdgpomaaGreatDoor
open Go.RowKit
def Tryz.ren196:Go.Shelf.Ren:=⟨fun|196=>201|259=>216|n=>n,fun|0=>0|3=>3|4=>4|5=>5|9=>9|12=>12|46=>71|53=>123|119=>294|138=>296|139=>297|n=>n,fun|3=>5|4=>6|n=>n⟩
set_option maxRecDepth 100000 in
def Tryz.lays196:Go.Proofs.Lays.n196 prog Tryz.ren196:=
 {mixed:=Ab,
  f196:=func201.trans (aJ lj Ab),
  f259:=func216.trans (aJ lj Ab),
  t0:=underlying0,
  a0:=isAgg0,
  z0:=sizeOf0,
  v0:=zeroValue0,
  t3:=underlying3,
  a3:=isAgg3,
  z3:=sizeOf3,
  v3:=zeroValue3,
  t4:=underlying4,
  a4:=isAgg4,
  z4:=sizeOf4,
  v4:=zeroValue4,
  t5:=underlying5,
  a5:=isAgg5,
  z5:=sizeOf5,
  v5:=zeroValue5,
  t9:=underlying9,
  a9:=isAgg9,
  z9:=sizeOf9,
  v9:=zeroValue9,
  t12:=underlying12,
  a12:=isAgg12,
  z12:=sizeOf12,
  v12:=zeroValue12,
  t46:=underlying71,
  a46:=isAgg71,
  z46:=sizeOf71,
  v46:=zeroValue71,
  t53:=underlying123,
  a53:=isAgg123,
  z53:=sizeOf123,
  v53:=zeroValue123,
  t119:=underlying294,
  a119:=isAgg294,
  z119:=sizeOf294,
  t138:=underlying296,
  a138:=isAgg296,
  z138:=sizeOf296,
  v138:=zeroValue296,
  t139:=underlying297,
  a139:=isAgg297,
  z139:=sizeOf297,
  v139:=zeroValue297,
  g3:=Ab,
  g4:=by kernel_rfl }
def Fj(s:gU):Bool:=Lib.validD s.data.toList
def TX(w:U):Prop:=Lib.Utf8Tabs 5 6 w/\8<=y w.1
def utf:It Fj TX where
 gives:=λs w a b=>Any.utf8_ValidString Tryz.lays196 s w Aa a.1
 kept:=λ{B w d} k D h=>have e:8<=B:=k
  ⟨⟨λc M=>(D.cell Ah).trans (h.1.1 c M),λi V=>⟨(D.cell Ah).trans (h.1.2 i V).1,(D.cell Ah).trans (h.1.2 i V).2⟩⟩,aE h.2 D.size⟩
 size:=λ{w} h=>h.2
def WH:(Rows.laid_unicode_utf8_acceptRanges:DataW Unit)=Lib.acceptData:=Ab
def Aco:Rows.laid_unicode_utf8_first=Lib.firstData:=Ab
def An3:prog.globalNamed "orchard/value.letters" = lj 7:=Ab
def Acv:(prog.globals[7]?).map (·.type)=lj 298:=Ab
def Agn:prog.cellsOf 298=49:=Ab
def UE:prog.cellsOf 205=7:=Ab
def Abp:prog.cellsOf 3=1:=Ab
def Agm:prog.cellsOf 203=1:=Ab
def Abq:prog.cellsOf 4=1:=Ab
def Aj5:prog.cellsOf 5=1:=Ab
def Mk{w h}{k:Nat->Bool}{i j}{cs:gZ}{p a b c d e g f}(v:DataW.trod (λ_=>()) prog w h k i j 205 cs=lj (.agg [.lit (.int qg a),.lit (.int gh b),.lit (.int gh c),.lit (.int gh d),.lit (.int gh e),.lit (.bool f),.lit (.int qg g)],p)):cs = [uu qg a,iE b,iE c,iE d,iE e,gd f,uu qg g]:=by
 obtain⟨X,n,_,Z,K,x,M⟩:=DataW.trod_struct underlying205 v
 match X,x with
 |[x0,x1,x2,x3,x4,x5,x6],_=>
  rw[UE]at K
  match cs,K with
  |[v0,v1,v2,v3,v4,v5,v6],_=>
   have F:=M 0 _ iI;refine Qsy λm o N q r=>?_;have l:=M 6 _ iI;simp[Abp,Abq,Aj5,Agm]at F m o N q r l;obtain⟨y,s,rfl,_⟩:=kh underlying5 F;obtain⟨z,S,rfl,_⟩:=kh underlying203 m;obtain⟨A,L,rfl,_⟩:=kh underlying3 o;obtain⟨B,Y,rfl,_⟩:=kh underlying3 N;obtain⟨C,t,rfl,_⟩:=kh underlying3 q;obtain⟨E,u,rfl⟩:=DataW.trod_bool underlying4 r;obtain⟨D,W,rfl,_⟩:=kh underlying5 l;simp at Z s S L Y t u W;obtain⟨⟨rfl,rfl,rfl,rfl,rfl,rfl,rfl⟩,_⟩:=Z;subst s S L Y t u W
   rfl
def Zc{a:Type}(l:List a)(k):l.drop k=(l.drop k).take 7++l.drop (k+7):=by
 rw[←List.drop_drop];exact(eH 7 (l.drop k)).symm
def BD{w}(h:zy prog w "orchard/value.letters" Rows.laid_orchard_value_letters):Table w:=by
 obtain⟨g,t,cs,r,z,G,v,H,y⟩:=h;obtain rfl:=aB (An3.symm.trans G);obtain rfl:=aB (Acv.symm.trans v);have A:cs.toList.length=49:=by
  obtain⟨_,_,_,_,K,_⟩:=DataW.trod_array Tryz.underlying298 y;rw[K,Agn]
 have R:∀i,i<7->∃L M S,_:=λi V=>Lib.array_elem Tryz.underlying298 y i V;obtain⟨_,_,_,x,u⟩:=R 0 Aa;obtain⟨_,_,_,Z,P⟩:=R 1 Aa;obtain⟨_,_,_,T,O⟩:=R 2 Aa;obtain⟨_,_,_,F,a⟩:=R 3 Aa;obtain⟨_,_,_,b,t4⟩:=R 4 Aa;obtain⟨_,_,_,d,f⟩:=R 5 Aa;obtain⟨_,_,_,e,j⟩:=R 6 Aa;simp only[List.getElem?_cons_zero,List.getElem?_cons_succ,aT]at x Z T F b d e;subst x Z T F b d e;rw[UE]at u P O a t4 f j;have c0:=Mk u;have Q:=Mk P;have l:=Mk O;have U:=Mk a;have m:=Mk t4;have n:=Mk f;have q:=Mk j;have s:cs.toList=Fz.toList:=by
  have B:=Zc cs.toList 0;have c:=Zc cs.toList 7;have k:=Zc cs.toList 14;have N:=Zc cs.toList 21;have W:=Zc cs.toList 28;have o:=Zc cs.toList 35;have C:=Zc cs.toList 42;have J:cs.toList.drop 49 = []:=gA Aa;simp only[Nat.zero_mul,Nat.one_mul,Nat.reduceMul,Nat.reduceAdd]at c0 Q l U m n q B c k N W o C;rw[J,q]at C;rw[C,n]at o;rw[o,m]at W;rw[W,U]at N;rw[N,l]at k;rw[k,Q]at c
  rwa[c,c0]at B
 have E:cs=Fz:=Array.toList_inj.1 s;subst E;simp only[World.var?,An3,eM]at H;split at H
 ·rename_i p I X D;injection H with H;subst H;exact⟨I,X,D⟩
 ·cases H
def CX{w}(C:zy prog w "unicode/utf8.first" Rows.laid_unicode_utf8_first)(J:zy prog w "unicode/utf8.acceptRanges" Rows.laid_unicode_utf8_acceptRanges)(I:8≤w.heap.size):TX w:=by
 rw[Aco]at C;rw[WH]at J;exact⟨utf8Tabs_of_readsT (U8Types.of196 Tryz.lays196) ⟨Ab,Ab,Ab,Ab,Ab,Ab,Ab⟩ C J,I⟩
end Go.Proofs.YtcbilgmfdgpomaaGreatDoor

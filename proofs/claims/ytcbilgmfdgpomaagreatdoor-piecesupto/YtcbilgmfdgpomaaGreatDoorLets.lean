import Derived.Test.YtcbilgmfdgpomaaGreatDoorQ06
import Derived.Test.YtcbilgmfdgpomaaGreatDoorRows
import Derived.Shelf.Unicode.ValidAny
import Derived.Lib.LaidU8T
set_option linter.all false
set_option maxHeartbeats 8000000
set_option maxRecDepth 8000
open Array renaming size → y
open Option renaming some → ni
open Go.RowKit renaming Below → Q
open Go renaming Ending → i,World → U,Value → Y,Calls → Z
open Go.Value renaming int → pq,bool → vp
open Go.DataW renaming trod_int → yq
open Go.Lib renaming VarReads → oz
open Go.IntKind renaming i64 → yi,u8 → zi
open List renaming length → N
open Orch renaming letters → S,Ty → u,find → W,parse → R
open Go.Proofs.YtcbilgmfdgpomaaGreatDoor renaming cellOf → K,ltOf → T,toList_nil → M,Fc → O,Il → j,vv → k
open Go.Proofs.Tryz Orch
namespace Go.Proofs.YtcbilgmfdgpomaaGreatDoor
open Go.RowKit
def Tryz.ren196:Go.Shelf.Ren:=⟨fun|196=>201|259=>216|n=>n,fun|0=>0|3=>3|4=>4|5=>5|9=>9|12=>12|46=>71|53=>123|119=>294|138=>296|139=>297|n=>n,fun|3=>5|4=>6|n=>n⟩
set_option maxRecDepth 100000 in
def Tryz.lays196:Go.Proofs.Lays.n196 prog Tryz.ren196:=
 {mixed:=Ab,
  f196:=func201.trans (aK ni Ab),
  f259:=func216.trans (aK ni Ab),
  t0:=underlying0,
  a0:=isAgg0,
  z0:=sizeOf0,
  v0:=zeroValue0,
  t3:=underlying3,
  a3:=isAgg3,
  z3:=sizeOf3,
  v3:=zeroValue3,
  t4:=underlying4,
  a4:=isAgg4,
  z4:=sizeOf4,
  v4:=zeroValue4,
  t5:=underlying5,
  a5:=isAgg5,
  z5:=sizeOf5,
  v5:=zeroValue5,
  t9:=underlying9,
  a9:=isAgg9,
  z9:=sizeOf9,
  v9:=zeroValue9,
  t12:=underlying12,
  a12:=isAgg12,
  z12:=sizeOf12,
  v12:=zeroValue12,
  t46:=underlying71,
  a46:=isAgg71,
  z46:=sizeOf71,
  v46:=zeroValue71,
  t53:=underlying123,
  a53:=isAgg123,
  z53:=sizeOf123,
  v53:=zeroValue123,
  t119:=underlying294,
  a119:=isAgg294,
  z119:=sizeOf294,
  t138:=underlying296,
  a138:=isAgg296,
  z138:=sizeOf296,
  v138:=zeroValue296,
  t139:=underlying297,
  a139:=isAgg297,
  z139:=sizeOf297,
  v139:=zeroValue297,
  g3:=Ab,
  g4:=by kernel_rfl }
def Cp(s:hU):Bool:=Lib.validD s.data.toList
def UC(w:U):Prop:=Lib.Utf8Tabs 5 6 w/\8<=y w.1
def utf:Im Cp UC where
 gives:=λs w a b=>Any.utf8_ValidString Tryz.lays196 s w Aa a.1
 kept:=λ{B w d} k D h=>have e:8<=B:=k
  ⟨⟨λc M=>(D.cell Ah).trans (h.1.1 c M),λi V=>⟨(D.cell Ah).trans (h.1.2 i V).1,(D.cell Ah).trans (h.1.2 i V).2⟩⟩,aF h.2 D.size⟩
 size:=λ{w} h=>h.2
def WJ:(Rows.laid_unicode_utf8_acceptRanges:DataW Unit)=Lib.acceptData:=Ab
def Aco:Rows.laid_unicode_utf8_first=Lib.firstData:=Ab
def Aob:prog.globalNamed "orchard/value.letters" = ni 7:=Ab
def Acu:(prog.globals[7]?).map (·.type)=ni 298:=Ab
def Agt:prog.cellsOf 298=49:=Ab
def UI:prog.cellsOf 205=7:=Ab
def Ags:prog.cellsOf 203=1:=Ab
def Akb:prog.cellsOf 5=1:=Ab
def Mi{w h}{k:Nat->Bool}{i j}{cs:iC}{p a b c d e g f}(m:DataW.trod (λ_=>()) prog w h k i j 205 cs=ni (.agg [.lit (.int zi a),.lit (.int yi b),.lit (.int yi c),.lit (.int yi d),.lit (.int yi e),.lit (.bool f),.lit (.int zi g)],p)):cs = [pq zi a,iL b,iL c,iL d,iL e,vp f,pq zi g]:=by
 obtain⟨X,n,_,Z,K,x,M⟩:=DataW.trod_struct underlying205 m
 match X,x with
 |[x0,x1,x2,x3,x4,x5,x6],_=>
  rw[UI]at K
  match cs,K with
  |[v0,v1,v2,v3,v4,v5,v6],_=>
   have F:=M 0 _ iP;refine Dz9 λo r N u v=>?_;have q:=M 6 _ iP;simp[Abu,Abv,Akb,Ags]at F o r N u v q;obtain⟨y,l,rfl,_⟩:=yq underlying5 F;obtain⟨z,S,rfl,_⟩:=yq underlying203 o;obtain⟨A,L,rfl,_⟩:=yq underlying3 r;obtain⟨B,Y,rfl,_⟩:=yq underlying3 N;obtain⟨C,s,rfl,_⟩:=yq underlying3 u;obtain⟨E,t,rfl⟩:=DataW.trod_bool underlying4 v;obtain⟨D,W,rfl,_⟩:=yq underlying5 q;simp at Z l S L Y s t W;obtain⟨⟨rfl,rfl,rfl,rfl,rfl,rfl,rfl⟩,_⟩:=Z;subst l S L Y s t W
   rfl
def Zj{a:Type}(l:List a)(k):l.drop k=(l.drop k).take 7++l.drop (k+7):=by
 rw[←List.drop_drop];exact(dO 7 (l.drop k)).symm
def BP{w}(h:oz prog w "orchard/value.letters" Rows.laid_orchard_value_letters):Table w:=by
 obtain⟨g,t,cs,r,z,G,v,H,y⟩:=h;obtain rfl:=aA (Aob.symm.trans G);obtain rfl:=aA (Acu.symm.trans v);have A:cs.toList.length=49:=by
  obtain⟨_,_,_,_,K,_⟩:=DataW.trod_array Tryz.underlying298 y;rw[K,Agt]
 have R:∀i,i<7->∃L M S,_:=λi V=>Lib.array_elem Tryz.underlying298 y i V;obtain⟨_,_,_,x,u⟩:=R 0 Aa;obtain⟨_,_,_,Z,P⟩:=R 1 Aa;obtain⟨_,_,_,T,O⟩:=R 2 Aa;obtain⟨_,_,_,F,a⟩:=R 3 Aa;obtain⟨_,_,_,b,t4⟩:=R 4 Aa;obtain⟨_,_,_,d,f⟩:=R 5 Aa;obtain⟨_,_,_,e,j⟩:=R 6 Aa;simp only[List.getElem?_cons_zero,List.getElem?_cons_succ,aW]at x Z T F b d e;subst x Z T F b d e;rw[UI]at u P O a t4 f j;have c0:=Mi u;have Q:=Mi P;have l:=Mi O;have U:=Mi a;have m:=Mi t4;have n:=Mi f;have q:=Mi j;have s:cs.toList=Gd.toList:=by
  have B:=Zj cs.toList 0;have c:=Zj cs.toList 7;have k:=Zj cs.toList 14;have N:=Zj cs.toList 21;have W:=Zj cs.toList 28;have o:=Zj cs.toList 35;have C:=Zj cs.toList 42;have J:cs.toList.drop 49 = []:=gH Aa;simp only[Nat.zero_mul,Nat.one_mul,Nat.reduceMul,Nat.reduceAdd]at c0 Q l U m n q B c k N W o C;rw[J,q]at C;rw[C,n]at o;rw[o,m]at W;rw[W,U]at N;rw[N,l]at k;rw[k,Q]at c
  rwa[c,c0]at B
 have E:cs=Gd:=Array.toList_inj.1 s;subst E;simp only[World.var?,Aob,eT]at H;split at H
 ·rename_i p I X D;injection H with H;subst H;exact⟨I,X,D⟩
 ·cases H
def DI{w}(C:oz prog w "unicode/utf8.first" Rows.laid_unicode_utf8_first)(J:oz prog w "unicode/utf8.acceptRanges" Rows.laid_unicode_utf8_acceptRanges)(I:8≤w.heap.size):UC w:=by
 rw[Aco]at C;rw[WJ]at J;exact⟨utf8Tabs_of_readsT (U8Types.of196 Tryz.lays196) ⟨Ab,Ab,Ab,Ab,Ab,Ab,Ab⟩ C J,I⟩

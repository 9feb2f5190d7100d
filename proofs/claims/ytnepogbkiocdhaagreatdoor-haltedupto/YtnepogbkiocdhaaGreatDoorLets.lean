import Derived.Test.YtnepogbkiocdhaaGreatDoorQ06
import Derived.Test.YtnepogbkiocdhaaGreatDoorRows
import Derived.Shelf.Unicode.ValidAny
import Derived.Lib.LaidU8T
open Go.Proofs.YtnepogbkiocdhaaGreatDoor
open Array renaming size->iZ
set_option maxRecDepth 8000
set_option linter.all false
open Go.DataW renaming trod_int->va
open Go.Proofs.Tryz renaming underlying3->js,underlying5->pw,prog->ow,underlying296->k8
open Go.Lib renaming VarReads->h7
open Go
open Go.Proofs.Tryz
def Icz{p:Prop}(h:p:=by
 split at H
 ·rename_i b I X D;injection H with H;subst H;exact⟨I,X,D⟩
 ·cases H):p:=h
namespace Go.Proofs.Y
variable {w:World}
open Go.RowKit
def Tryz.ren196:Go.Shelf.Ren:=⟨fun|196=>198|259=>213|n=>n,fun|0=>0|3=>3|4=>4|5=>5|9=>9|12=>12|46=>75|53=>120|119=>292|138=>294|139=>295|n=>n,fun|3=>5|4=>6|n=>n⟩
set_option maxRecDepth 100000 in
def Tryz.lays196:Go.Proofs.Lays.n196 ow Tryz.ren196:={mixed:=Ab,f196:=func198.trans (aK some Ab),f259:=func213.trans (aK some Ab),t0:=underlying0,a0:=isAgg0,z0:=sizeOf0,v0:=zeroValue0,t3:=js,a3:=isAgg3,z3:=sizeOf3,v3:=zeroValue3,t4:=underlying4,a4:=isAgg4,z4:=sizeOf4,v4:=zeroValue4,t5:=pw,a5:=isAgg5,z5:=sizeOf5,v5:=zeroValue5,t9:=underlying9,a9:=isAgg9,z9:=sizeOf9,v9:=zeroValue9,t12:=underlying12,a12:=isAgg12,z12:=sizeOf12,v12:=zeroValue12,t46:=underlying75,a46:=isAgg75,z46:=sizeOf75,v46:=zeroValue75,t53:=underlying120,a53:=isAgg120,z53:=sizeOf120,v53:=zeroValue120,t119:=underlying292,a119:=isAgg292,z119:=sizeOf292,t138:=underlying294,a138:=isAgg294,z138:=sizeOf294,v138:=zeroValue294,t139:=underlying295,a139:=isAgg295,z139:=sizeOf295,v139:=zeroValue295,g3:=Ab,g4:=by kernel_rfl }
def D8(s:iF):Bool:=Lib.validD s.data.toList
def XJ(w:World):Prop:=Lib.Utf8Tabs 5 6 w/\8<=iZ w.1
def utf:Hq D8 XJ where
 gives:=λs w a hs=>Any.utf8_ValidString Tryz.lays196 s w Aa a.1
 kept:=λ{B w b} k D h=>have d:8<=B:=k
  ⟨⟨λc M=>(D.cell Ai).trans (h.1.1 c M),λi V=>⟨(D.cell Ai).trans (h.1.2 i V).1,(D.cell Ai).trans (h.1.2 i V).2⟩⟩,aD h.2 D.size⟩
 size:=λ{w} h=>h.2
def ZV:(Rows.laid_unicode_utf8_acceptRanges:DataW Unit)=Lib.acceptData:=Ab
def Ae3:Rows.laid_unicode_utf8_first=Lib.firstData:=Ab
def Aqg:prog.globalNamed "orchard/value.letters" = some 7:=Ab
def Ae8:(prog.globals[7]?).map (·.type)=some 296:=Ab
def Aje:prog.cellsOf 296=49:=Ab
def XQ:prog.cellsOf 202=7:=Ab
def Aeb:prog.cellsOf 3=1:=Ab
def Ajd:prog.cellsOf 200=1:=Ab
def Aec:prog.cellsOf 4=1:=Ab
def Am0:prog.cellsOf 5=1:=Ab
def Ni{h}{k:Nat->Bool}{i j}{cs:iK}{p a b c d e g f}(v:DataW.trod (λ_=>()) ow w h k i j 202 cs=some (.agg [.lit (.int .u8 a),.lit (.int .i64 b),.lit (.int .i64 c),.lit (.int .i64 d),.lit (.int .i64 e),.lit (.bool f),.lit (.int .u8 g)],p)):cs = [.int .u8 a,.int .i64 b,.int .i64 c,.int .i64 d,.int .i64 e,.bool f,.int .u8 g]:=by obtain⟨X,n,_,Z,K,x,M⟩:=DataW.trod_struct underlying202 v;match X,x with|[x0,x1,x2,x3,x4,x5,x6],_=>rw[XQ]at K;match cs,K with|[v0,v1,v2,v3,v4,v5,v6],_=>have F:=M 0 _ iW;refine Qsy λm o N q r=>?_;have l:=M 6 _ iW;simp[Aeb,Aec,Am0,Ajd]at F m o N q r l;obtain⟨y,s,rfl,_⟩:=va pw F;obtain⟨z,S,rfl,_⟩:=va underlying200 m;obtain⟨A,L,rfl,_⟩:=va js o;obtain⟨B,Y,rfl,_⟩:=va js N;obtain⟨C,t,rfl,_⟩:=va js q;obtain⟨E,u,rfl⟩:=DataW.trod_bool underlying4 r;obtain⟨D,W,rfl,_⟩:=va pw l;simp at Z s S L Y t u W;obtain⟨⟨rfl,rfl,rfl,rfl,rfl,rfl,rfl⟩,_⟩:=Z;subst s S L Y t u W;rfl
def CG{a:Type}(l:List a)(k):l.drop k=(l.drop k).take 7++l.drop (k+7):=List.drop_drop▸(eN 7 (l.drop k)).symm
def EX(h:h7 ow w "orchard/value.letters" Rows.laid_orchard_value_letters):Table w:=by
 obtain⟨g,t,cs,r,z,G,v,H,y⟩:=h;obtain rfl:=aC (Aqg.symm.trans G);obtain rfl:=aC (Ae8.symm.trans v);have A:cs.1.length=49:=by obtain⟨_,_,_,_,K,_⟩:=DataW.trod_array k8 y;rw[K,Aje]
 have R:∀i<7,∃L M S,_:=λi V=>Lib.array_elem k8 y i V;obtain⟨_,_,_,x,u⟩:=R 0 Aa;obtain⟨_,_,_,Z,P⟩:=R 1 Aa;obtain⟨_,_,_,T,O⟩:=R 2 Aa;obtain⟨_,_,_,F,a⟩:=R 3 Aa;obtain⟨_,_,_,d,t4⟩:=R 4 Aa;obtain⟨_,_,_,e,f⟩:=R 5 Aa;obtain⟨_,_,_,j,l⟩:=R 6 Aa;simp[List.getElem?_cons_zero,List.getElem?_cons_succ,aU]at x Z T F d e j;subst x Z T F d e j;rw[XQ]at u P O a t4 f l;have c0:=Ni u;have Q:=Ni P;have m:=Ni O;have U:=Ni a;have n:=Ni t4;have p:=Ni f;have q:=Ni l;have s:cs.1=H9.1:=by have B:=CG cs.1 0;have c:=CG cs.1 7;have k:=CG cs.1 14;have N:=CG cs.1 21;have W:=CG cs.1 28;have o:=CG cs.1 35;have C:=CG cs.1 42;have J:cs.1.drop 49 = []:=gM Aa;simp only[Nat.zero_mul,Nat.one_mul,Nat.reduceMul,Nat.reduceAdd]at c0 Q m U n p q B c k N W o C;rw[J,q]at C;rw[C,p]at o;rw[o,n]at W;rw[W,U]at N;rw[N,m]at k;rw[k,Q]at c;rwa[c,c0]at B
 have E:cs=H9:=fI.1 s;subst E;simp[World.var?,Aqg,dP]at H;exact Icz
def GH(C:h7 ow w "unicode/utf8.first" Rows.laid_unicode_utf8_first)(J:h7 ow w "unicode/utf8.acceptRanges" Rows.laid_unicode_utf8_acceptRanges)(I:8≤w.heap.size):XJ w:=by rw[Ae3]at C;rw[ZV]at J;exact⟨utf8Tabs_of_readsT (U8Types.of196 Tryz.lays196) ⟨Ab,Ab,Ab,Ab,Ab,Ab,Ab⟩ C J,I⟩
end Go.Proofs.Y

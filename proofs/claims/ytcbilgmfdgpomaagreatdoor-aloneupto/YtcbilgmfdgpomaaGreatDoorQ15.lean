import Derived.Test.YtcbilgmfdgpomaaGreatDoorLets
import Derived.Test.YtcbilgmfdgpomaaGreatDoorQ14
open List renaming length → iK
set_option maxRecDepth 8000
set_option linter.all false
open Option renaming some → lj
open Go.Proofs.YtcbilgmfdgpomaaGreatDoor.Rows renaming laid_orchard_message_requests → cyb,laid_orchard_message_answers → qaf,laid_orchard_watch_tellings → nd
open Go.Lib renaming array_elem → vdu,VarReads → zy
open Go renaming Value → uo,World → gk
open Bool renaming true → km,false → sd
open UInt8 renaming ofNat → qe
open Go.Proofs.Tryz
variable {L cs:gZ}{W w:gk}{a b i j n:Nat}{c:Bool}{k:Nat->Bool}{l:gT}{x:uo}
def B1a{p:Prop}(h:p:=by
 rcases MZ a b with h|⟨i,h⟩|⟨i,j,h⟩
 ·rw[h];decide +kernel
 ·rw[h];clear h;revert i;decide +kernel
 ·rw[h];clear h;revert i j;decide +kernel):p:=h
namespace Go.Proofs.YtcbilgmfdgpomaaGreatDoor
variable {q:List MemPlace}{r:List (DataW Unit)}
open Go.RowKit
def An4:prog.globalNamed "orchard/message.requests" = lj 0:=Ab
def Acw:(prog.globals[0]?).map (·.type)=lj 181:=Ab
def An2:prog.globalNamed "orchard/message.answers" = lj 3:=Ab
def Acu:(prog.globals[3]?).map (·.type)=lj 181:=Ab
def Abl:prog.cellsOf 180=3:=Ab
def UF:prog.cellsOf 9=1:=Ab
def Al5{H}{P:TypeId×uo->H}{b}(h:DataW.trod P prog W a k b n 9 cs=lj (.lit (.string l),q)):cs = [.string ⟨l.toArray⟩]:=by
 have ⟨s,e,Z,_⟩:=DataW.trod_string underlying9 h
 simp_all
def Afr(D:b<n)(h:(((L.drop a).take n).drop b).take 1 = [x]):L[a+b]?=lj x:=by
 have C:=aJ (·[0]?) h
 grind
def OE{R p}(h:DataW.trod (λ_=>()) prog W a k c b 181 L=lj (.agg R,p))(V:i<8)(d:j<3)(y:R[i]?=lj (.agg r))(Y:r[j]?=lj (.lit (.string l))):L[i * 3+j]?=lj (.string ⟨l.toArray⟩):=by
 have ⟨D,Z,F,S,P⟩:=vdu underlying181 h i V;obtain rfl:=aB (y.symm.trans S);rw[Abl]at P;have ⟨K,T,z,e,O⟩:=vdu underlying180 P j d;obtain rfl:=aB (Y.symm.trans e);rw[UF,gO]at O;exact Afr d (Al5 O)
def Ve{n g}{cs:gY}(G:prog.globalNamed n=lj g)(H:w.var? prog n=lj cs){k}(h:cs.toList[k]?=lj x):w.cell? (iD g k)=lj x:=by
 simp only[World.var?,G,eM]at H;split at H
 ·rename_i p I X D;injection H with H;subst H;unfold World.cell?;rw[D];simpa using h
 ·cases H
def Ek(h:zy prog w "orchard/message.requests" cyb){i j}(V:i<8)(a:j<3)(R)(o:cyb=.agg R)(y:R[i]? = lj (.agg r))(Y:r[j]? = lj (.lit (.string l))):w.cell? ⟨0,i * 3+j,none⟩=lj (.string ⟨l.toArray⟩):=by
 have ⟨g,t,cs,b,p,G,v,H,s⟩:=h;obtain rfl:=aB (An4.symm.trans G);obtain rfl:=aB (Acw.symm.trans v);rw[o]at s;exact Ve An4 H (OE s V a y Y)
def Er(h:zy prog w "orchard/message.answers" qaf){i j}(V:i<8)(a:j<3)(R)(o:qaf=.agg R)(y:R[i]? = lj (.agg r))(Y:r[j]? = lj (.lit (.string l))):w.cell? ⟨3,i * 3+j,none⟩=lj (.string ⟨l.toArray⟩):=by
 have ⟨g,t,cs,b,p,G,v,H,s⟩:=h;obtain rfl:=aB (An2.symm.trans G);obtain rfl:=aB (Acu.symm.trans v);rw[o]at s;exact Ve An2 H (OE s V a y Y)
def gTl:prog.globalNamed "orchard/watch.tellings" = lj 4:=Ab
def UL:(prog.globals[4]?).map (·.type)=lj 286:=Ab
def Abn:prog.cellsOf 285=1:=Ab
def Abo:prog.cellsOf 288=3:=Ab
def Abm:prog.cellsOf 187=1:=Ab
def tlD(x:Tl):DataW Unit:=.agg [.lit (.int .i64 x.1),.lit (.bool x.2.1),.lit (.int .i64 x.2.2)]
def TE{x}(h:DataW.trod (λ_=>()) prog w a k c b 288 cs=lj (tlD x,q)):cs = [.int .i64 x.1,.bool x.2.1,.int .i64 x.2.2]:=by
 obtain⟨X,n,_,Z,K,d,I⟩:=DataW.trod_struct underlying288 h
 match X,d with
 |[p,N,H],_=>
  match cs,K with
  |[i,v1,G],_=>
   have F:=I 0 _ iI;have C:=I 1 _ iI;have J:=I 2 _ iI;simp[Abp,Abq,Abm]at F C J;obtain⟨M,e,rfl,_⟩:=DataW.trod_int underlying187 F;obtain⟨f,S,rfl⟩:=DataW.trod_bool underlying4 C;obtain⟨g,L,rfl,_⟩:=DataW.trod_int underlying3 J;simp[tlD]at Z e S L
   grind
def TF{T}(V:T≠[])(b:DataW.trod (λ_=>()) prog w 0 (λ_=>km) sd i 285 cs=lj (.slice (T.map tlD) [],q)):∃g o,cs = [.slice (lj (iD g o)) (iK T) (iK T)]/\∀j x,T[j]?=lj x->w.cell? ⟨g,o+j * 3,none⟩=lj (.int .i64 x.1)/\w.cell? ⟨g,o+j * 3+1,none⟩=lj (.bool x.2.1)/\w.cell? ⟨g,o+j * 3+2,none⟩=lj (.int .i64 x.2.2):=by
 rcases DataW.trod_slice Tryz.underlying285 b with⟨_,Z⟩|⟨a,s,c,r,d,n,P,f,U,_,Q,_,y,O,D,_⟩
 ·cases Z
 ·simp only[cS,DataW.slice.injEq]at U;obtain⟨⟨N,Y⟩,_⟩:=U;have A:d = []:=by simpa using Y.symm
  have C:c=s:=by
   have:=(D iI).1;rw[A]at this;simp at this;omega
  have m:s=iK T:=by rw[←y,←bV (f:=(·.1)),←N,bV]
  have R:∀j x,T[j]?=lj x->∀k u,([.int .i64 x.1,.bool x.2.1,.int .i64 x.2.2]:gZ)[k]?=lj u->w.cell? (a.add (j * 3+k))=lj u:=λj x l k u h=>by
   have J:j<iK T:=(aF.1 l).1;have v:=O j Aa;rw[Abo]at v;obtain⟨⟨K,W⟩,G,E⟩:=bB.1 (by rw[←aS,←N,aS,l];rfl);simp only at E;subst E;rw[G]at v;obtain⟨X,z,H⟩:=bM.1 v;have M:=TE H;subst M;have I:=(World.cells?_some z).2.2 k SG;rw[h]at I;rw[←I,Addr.add_add]
  obtain⟨p,B,rfl⟩:∃p B,T=p::B:=by cases T with
   |nil=>exact absurd iI V
   |cons p B=>exact⟨p,B,iI⟩
  obtain⟨g,o,t⟩:=a;have e:t=none:=by
   have:=World.cell?_spot (R 0 p iI 0 _ iI);simpa[Addr.add] using this
  subst e;refine⟨g,o,by rw[f,C,m],λj x l=>?_⟩;have F:=R j x l 0 _ iI;have S:=R j x l 1 _ iI;have L:=R j x l 2 _ iI;rw[Addr.add_lit]at F S L;exact⟨by simpa using F,by simpa[fE] using S,by simpa[fE] using L⟩
def BJ(h:zy prog w "orchard/watch.tellings" nd):(∃g,Pm w 1 g [(0,sd,1),(1,km,4)])/\(∃g,Pm w 2 g [(0,sd,2),(1,sd,2),(1,km,4)])/\∃g,Pm w 3 g [(0,sd,3)]:=by
 obtain⟨g,t,cs,r,z,G,v,H,y⟩:=h;obtain rfl:=aB (gTl.symm.trans G);obtain rfl:=aB (UL.symm.trans v);have d:∀i(T:List Tl),i<4->T≠[]->([.nil,.slice [tlD (0,sd,1),tlD (1,km,4)] [],.slice [tlD (0,sd,2),tlD (1,sd,2),tlD (1,km,4)] [],.slice [tlD (0,sd,3)] []]:List (DataW Unit))[i]? = lj (.slice (T.map tlD) [])->∃g,Pm w i g T:=λi T c V a=>by
  obtain⟨D,Z,F,S,P⟩:=vdu underlying286 y i c;obtain rfl:=aB (a.symm.trans S);rw[Abn,gO]at P;obtain⟨g,o,M,s⟩:=TF V P;refine⟨g,⟨o,Ve gTl H ?_,s⟩⟩;have C:=aJ (·[0]?) M
  grind
 simp_all
def BH(h:zy prog w "orchard/watch.tellings" nd):w.cell? ⟨4,0,none⟩=lj (.slice none 0 0):=by
 have ⟨g,t,cs,a,p,G,v,H,y⟩:=h;obtain rfl:=aB (gTl.symm.trans G);obtain rfl:=aB (UL.symm.trans v);have ⟨D,b,F,S,P⟩:=vdu underlying286 y 0 Aa;have L:=aB (S.symm.trans iI);subst L;rcases DataW.trod_slice Tryz.underlying285 P with⟨M,_⟩|⟨_,_,_,_,_,_,_,_,Z,_⟩
 ·apply Ve gTl H;have C:=aJ (·[0]?) M
  grind
 ·cases Z
def MZ(a b):E3 a b=⟨#[47]⟩∨(∃i:Fin 4,E3 a b=⟨#[47,qe (97+i.1)]⟩)∨∃(i:Fin 4)(j:Fin 3),E3 a b=⟨#[47,qe (97+i.1),47,qe (97+j.1)]⟩:=by
 have d:∀c(n:Nat),0<n->n<=20->∃i:Fin n,smB (M5 c n)=⟨#[qe (97+i.1)]⟩:=λc n C J=>by
  obtain⟨T,q⟩:=Ql c (n:=n) Aa;refine⟨⟨(M5 c n).toNat,Aa⟩,?_⟩;unfold smB;have e:M5 (M5 c n) 20=M5 c n:=by
   unfold M5 at *;rw[aM Aa];exact fZ T Aa
  have L:(97+M5 c n).toNat=97+(M5 c n).toNat:=Aa;rw[e,L]
 unfold E3;split
 ·exact .inl iI
 ·split
  ·obtain⟨i,V⟩:=d a 4 Aa Aa;exact .inr (.inl ⟨i,by rw[show((4:Nat):Int)=4 from iI]at V;rw[V];rfl⟩)
  ·obtain⟨i,V⟩:=d a 4 Aa Aa;obtain⟨j,l⟩:=d b 3 Aa Aa;exact .inr (.inr ⟨i,j,by rw[show((4:Nat):Int)=4 from iI]at V;rw[show((3:Nat):Int)=3 from iI]at l;rw[V,l];rfl⟩)
def Aee(a b):Lk (E3 a b)=km/\Eb (E3 a b)=km/\Fj (E3 a b)=km:=by
 exact B1a
def Aai:Fj iG=km:=Ae
def YT(a b):Wy Fj (E3 a b):=by
 obtain⟨C,J,T⟩:=Aee a b;have q:(Hx (E3 a b)).size<=24/\Fj (Hx (E3 a b))=km/\(Ej (E3 a b)).size<=200/\Fj (Ej (E3 a b))=km:=by
  exact B1a
 exact⟨C,by have:=Td a b;omega,T,J,⟨q.1,q.2.1⟩,q.2.2⟩
def ZL:Fj (Hx ⟨#[47]⟩)=km:=by decide +kernel
end Go.Proofs.YtcbilgmfdgpomaaGreatDoor

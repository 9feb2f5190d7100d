import Derived.Test.YtnepogbkiocdhaaGreatDoorQ13
open List renaming length->iY
open Array renaming size->iZ
set_option linter.all false
set_option maxRecDepth 10000
open Go
variable {K:iF}{i n:Nat}{p:Prop}
def Z06(h:p:=by
 rcases h with⟨_,rfl⟩|⟨i,f,I,_,rfl⟩
 ·refine⟨Ai,λf I=>?_⟩;rcases bC.1 I with h|h
  ·have:=y f h;omega
  ·simp only[dJ]at h;subst h;simp only[bX];have:(iU:iF).size=0:=iW;omega
 grind):p:=h
def Pmj(h:p:=by
 split
 ·simp only[aH,Orch.be_length];omega
 ·split
  ·simp only[aH,Orch.be_length];omega
  ·simp only[aH,Orch.be_length];omega):p:=h
namespace Go.Proofs.Y
variable {L t:List Fl}{a:ST}{l:List AS}{r:Rq}
open Go Go.RowKit Go.Maps
structure Zy(n:Nat)(σ:ST):Prop where
 num0:0<=σ.num
 num:σ.num<=n
 path:∀q∈σ.ns,q.2.path=q.1
 root:∃x,((⟨#[47]⟩:iF),x)∈σ.ns
 dn:σ.down=false
 left:σ.left = -1
 L:iY σ.L<=n
 d:∀f∈σ.L,f.d.size<=n * 400
def Zy.ok(h:Zy n a)(z:n<=1000000):BL a:=by have C:=h.2;have J:=h.L;exact⟨h.5,Aa,λf I=>by have:=h.d f I;omega,Aa⟩
def Zy.mono(h:Zy n a):Zy (n+1) a:=by have C:=h.2;have J:=h.L;exact⟨h.1,Aa,h.3,h.4,h.5,h.6,Aa,λf I=>by have:=h.d f I;omega⟩
def Zy.pos(h:Zy n a):0<iY a.ns:=by have ⟨x,Z⟩:=h.4;exact fC Z
def Aj2(k):Zy 0 { σ0 with last:=k }:=by refine⟨by show(0:Int)<=0;decide,by show(0:Int)<=0;decide,λq a=>?_,⟨Me,by show _∈[_];simp⟩,iW,iW,by show 0<=0;decide,λf I=>?_⟩;have t:q∈[((⟨#[47]⟩:iF),Me)]:=a;grind;have:=I;cases this
def ZZ{a}(h:BP L K a t)(c:iY L<=n)(y:∀f∈L,f.d.size<=n * 400)(N:a.size<=400):iY t<=n+1/\∀f∈t,f.d.size<=(n+1) * 400:=by exact Z06
def WL(h:Zu L K t)(c:iY L<=n)(y:∀f∈L,f.d.size<=n * 400):iY t<=n/\∀f∈t,f.d.size<=n * 400:=by obtain⟨_,rfl⟩|⟨i,f,I,_,rfl⟩:=h;exact⟨c,y⟩;grind
def Ab4{p a b u}(h:VS (-1) L a b u p)(c:iY L<=n)(y:∀f∈L,f.d.size<=n * 400)(N:a.size<=400):iY p<=n+1/\∀f∈p,f.d.size<=(n+1) * 400:=by obtain⟨h,_⟩|⟨_,t,d,⟨h,_⟩|⟨_,_,_,s⟩⟩:=h;omega;exact absurd h Ad;have ⟨C,J⟩:=ZZ d c y N;exact WL s C J
def JE(kind a){p d n}(Q:p.size<=200)(y:d.size<=40)(z:n.size<=10):(AF kind a p d n).size<=400:=by show(Orch.be _ 4++Om kind a p d n).length<=400;rw[aH,Orch.be_length,Wr];omega
def SL{b G V}(h:Fc r i a l G V)(I:Zy n a)(E:1<=r.kind)(Q:r.kind<=6->Jr b r.p)(y:r.kind<=3->r.d.size<=40):Zy (n+1) G:=by rw[Fc]at h;split at h;rename_i T;rw[chR,I.6]at h;obtain⟨_,rfl,_⟩|⟨M,j,u,p,Y,h⟩:=h;exact I.mono;obtain⟨rfl,rfl⟩:=QT Y;obtain⟨D,_⟩|⟨_,rfl,_⟩:=h;cases D;obtain⟨c,d⟩:=Ab4 Y I.L I.d (JE _ _ (Q Aa).2 (y T) Ad);have k:=I.1;have m:=I.2;refine⟨Aj,Aj,?_,?_,I.5,iW,c,d⟩;intro q f;show q.2.1=q.1;have t:q∈Mg r.1 a.4 r.p r.d iU (a.3+1):=f;rw[Mg]at t;split at t;obtain h|h:=bC.1 t;exact I.3 q h;grind;split at t;exact I.3 q (List.mem_filter.1 t).1;obtain⟨U,F,rfl⟩:=aZ.1 t;split;rename_i e;show U.2.1=r.p;rw[I.3 U F,e];exact I.3 U F;obtain⟨x,Z⟩:=I.4;show ∃x,((⟨#[47]⟩:iF),x)∈Mg r.1 a.4 r.p r.d iU (a.3+1);rw[Mg];split;exact⟨x,fJ _ Z⟩;split;rename_i _ g;refine⟨x,List.mem_filter.2 ⟨Z,?_⟩⟩;(have:(⟨#[47]⟩:iF)≠r.p:=λe=>by rw[Du,g,aO Ad,aL iW,aL e.symm]at M;cases M);simpa using this;by_cases e:(⟨#[47]⟩:iF)=r.p;exact⟨_,aZ.2 ⟨_,Z,by rw[aL e,←e]⟩⟩;exact⟨x,aZ.2 ⟨_,Z,aO e⟩⟩;split at h;obtain⟨rfl,_⟩:=h;have J:=I.mono;exact⟨J.1,J.2,J.3,J.4,J.5,J.6,J.L,J.d⟩;obtain⟨rfl,_⟩:=h;exact I.mono
open Go.Conc Go.Pair
section
variable {z:Nat->Value×Value} {o:iD} {F:iI} {y:Nat} {c:iG} {N:Goroutine->World->Prop} {u O:World} {A:SA} {e:ST} {a:iM} {m:Nat} {se:List SI} {r:iC}
def SU.new(H:F9 z o F y c u A e a m se r)(K:Ax u O iV){cs:iJ}{fz}{s:iF}{b}(D:O.1[iZ u.1]?=some (.cells cs 5 fz))(V:I9 cs)(M:s.size<=b)(d:Bytes O u.1.size 0 s.data.toList):SU y c O (Im z A a se) A.D (some u.1.size) 0 b s.data.toList:=⟨λX i=>by obtain rfl:=aC i;exact⟨H.C.4,λl=>by have:=H.C.W.lt l;omega,λl=>by have:=H.lt l;omega,λi=>by have:=ltOf H.F.1.6;omega,cs,fz,D,V⟩,M,λ_=>⟨_,iW,d⟩⟩
end
def UL{b:iE}(h:16<=iY b):20<=(HY b).length:=by rw[Vv];omega
def Afx(kind m z x en L):20<=(Zg kind m z x en L).length:=by rw[Zg];split;apply UL;rw[X2];exact Pmj;rw[Ox];exact aA _
def Ai5(kind m z p r):20<=(HY (FL kind m z p r)).length:=by apply UL;rw[FL];exact Pmj
def Qn{a}(h:l[i]?=some a)(b):(If l i b)[i]?=some { a with lo:=a.lo++b }:=by rw[If];grind
def XC{b G V a}(h:Fc r i b l G V)(K:b.left = -1)(d:l[i]?=some a):∃e:iE,20<=iY e/\V[i]?=some { a with lo:=a.lo++e }:=by rw[Fc]at h;split at h;rw[chR,K]at h;obtain⟨_,_,rfl⟩|⟨_,e,u,p,Y,h⟩:=h;exact⟨_,by rw[Ox];exact aA _,Qn d _⟩;obtain⟨rfl,rfl⟩:=QT Y;obtain⟨D,_⟩|⟨_,_,rfl⟩:=h;cases D;(obtain⟨c,M⟩:∃c,(Ps l (Dk (b.3+1) r.p (TT r.1) (l.map AS.k) b.5).1)[i]?=some { a with lo:=a.4++c }:=by have F:=(aF.1 d).1;obtain⟨c,M⟩:∃c,(Dk (b.3+1) r.p (TT r.1) (l.map AS.k) b.5).1[i]?=some c:=⟨_,aG (by rwa[Si,bR])⟩;refine⟨c,?_⟩;rw[Ps];grind);refine⟨c++_,?_,by rw[Qn M,bY]⟩;rw[aH];have:=Ai5 r.1 r.m (b.3+1) r.p (Mg r.1 b.4 r.p r.d iU (b.3+1));omega;split at h;obtain⟨_,rfl⟩:=h;exact⟨_,Afx _ _ _ _ _ _,Qn d _⟩;obtain⟨_,rfl⟩:=h;exact⟨_,UL Ao,Qn d _⟩
end Go.Proofs.Y

import Derived.Test.YtnepogbkiocdhaaGreatDoorQ14
import Derived.Test.YtnepogbkiocdhaaGreatDoorQ16
open List renaming length->iY
open Array renaming size->iZ
set_option linter.all false
open Option renaming some->je,none->zt
open Go renaming World->qi
open Go.Proofs.Tryz renaming prog->ow
open Go.Value renaming int->wy,pointer->vp,bool->o0
open Go.IntKind renaming i64->yh
open Go
variable {F:iI}{K b d i j y:Nat}{O u w:qi}{c f h v:iG}{kind:Int}{r:iC}
def Bgb{p:Prop}(h:p:=by
 split
 ·simp only[bX,Ny,Jt];omega
 ·simp only[bX,Ny,Jt];omega):p:=h
namespace Go.Proofs.Y
variable {A:SA}{e:ST}{l:List AS}
open Go Go.Conc Go.Pair Go.RowKit Go.Maps
structure Ak where
 k:Int
 a:Int
 b:Int
 s:iF
 v:Int
 w:Bool
def Ak.val(x:Ak):Value:=.agg #[iS x.k,iS x.a,iS x.b,.string x.s,iS x.v,o0 x.w]
structure Ak.Ok(x:Ak):Prop where
 k:Ov x.k
 a:Ov x.a
 b:Ov x.b
 v:Ov x.v
 s:x.s.size<=9223372036854775807
structure Apg{gN Tabs}(A:PA gN Tabs)(b off)(x:Ak):Prop where
 ta:A.2 b
 c0:A.base.cell? (iR b off)=je (iS x.k)
 c1:A.base.cell? ⟨b,off+1,zt⟩=je (iS x.a)
 c2:A.base.cell? ⟨b,off+2,zt⟩=je (iS x.b)
 c3:A.base.cell? ⟨b,off+3,zt⟩=je (.string x.s)
 c4:A.base.cell? ⟨b,off+4,zt⟩=je (iS x.v)
 c5:A.base.cell? ⟨b,off+5,zt⟩=je (o0 x.w)
 j0:¬A.4 (.cell (iR b off))
 j1:¬A.4 (.cell ⟨b,off+1,zt⟩)
 j2:¬A.4 (.cell ⟨b,off+2,zt⟩)
 j3:¬A.4 (.cell ⟨b,off+3,zt⟩)
 j4:¬A.4 (.cell ⟨b,off+4,zt⟩)
 j5:¬A.4 (.cell ⟨b,off+5,zt⟩)
def SS{gN Tabs}(A:PA gN Tabs)(oA:iM)(xs:List Ak):Prop:=∀i(x:Ak),xs[i]?=je x->∃b off,oA=je (iR b off)/\Apg A b (off+i * 6) x/\x.Ok
section
variable {A:PA y F} {fn:FuncId} {Q:Exit->Act->qi->Prop} {a:Act} {g:Array Oper} {l:iO} {o:Oper}
def Agh{x}{off k:Nat}(h:Apg A b off x)(O:g[i]?=je o)(c:Region.wanted o (yielded g a.tmps)=true)(V:Pl ow (env Lv) fn o)(T:o.op=.load 32 (.tmp k))(E:a.eval (.tmp k)=vp (je (iR b off)))(F:opsV ow true Dy (Pq A) fn g l Q (a.put o.dst x.val) w):opsV ow true Dy (Pq A) fn g (i::l) Q a w:=by intro J q f m P r;refine EV.stop λd p N D=>?_;apply EN.ofP D;have z:=EV.show A.6 A.5 p (EV.at (F J q f m P r) d);have y:=λj:Nat=>AN (w:=A.3) p (a:=(iR b j)) h.1;generalize Cf A.2 A.3 (World.at w d)=W at z y D⊢;have B:∀{j},¬A.4 (.cell (iR b j))->¬A.JX (.cell (iR b j)):=λs h=>h.elim (λh=>h) s;(have n:∀M:Nat,Go.Pair.Yields ow (execOp a.eval o) (W.at M) x.val (W.at M)/\∀e∈(execOp a.eval o).events ow (W.at M) #[],Gp A.JX e:=λM=>by have t:(W.at M).cell? (iR b off)=je (iS x.k):=((y _).trans h.2);have S:(W.at M).cell? ⟨b,off+1,zt⟩=je (iS x.a):=((y _).trans h.3);have L:(W.at M).cell? ⟨b,off+2,zt⟩=je (iS x.b):=((y _).trans h.4);have Y:(W.at M).cell? ⟨b,off+3,zt⟩=je (.string x.s):=((y _).trans h.5);have u:(W.at M).cell? ⟨b,off+4,zt⟩=je (iS x.v):=((y _).trans h.6);have v:(W.at M).cell? ⟨b,off+5,zt⟩=je (o0 x.w):=((y _).trans h.7);rw[execOp,T];simp[E];refine⟨.inl ?_,λe he=>?_⟩;rw[Ak.val];go_simp;simp[go_sem,t,S,L,Y,u,v]at he;obtain rfl|rfl|rfl|rfl|rfl|rfl:=he;exact Co (B h.8);exact Co (B h.9);exact Co (B h.j2);exact Co (B h.j3);exact Co (B h.j4);exact Co (B h.j5));exact EV.opEv (S:=env Lv) (fn:=fn) P O c V (A5 _ _) (λM=>(n M).1) (λM=>(n M).2) z
end
def Xr(x:Ak)(kind:Int)(i:Nat):iF:=Uj kind (UU i) (Fo x.a x.b) (Ra x.s) (Vg x.v) x.w
def Ts(x:Ak)(kind:Int)(i:Nat):Rq:=Ad3 kind.toNat (UU i) (Fo x.a x.b) (Ra x.s) (Vg x.v) x.w
structure Aph(x kind i):Prop where
 s0:0<(Xr x kind i).size
 s1:(Xr x kind i).size<=1000
 req:No D8 (Xr x kind i).data.toList=je (Ts x kind i)
 kk:(Ts x kind i).kind=kind.toNat
 p:(Ts x kind i).kind<=6->Jr D8 (Ts x kind i).p
 d:(Ts x kind i).kind<=3->(Ts x kind i).d.size<=40
def BO(x){kind}(C:1<=kind)(M:kind<=7)(i):Aph x kind i:=by
 obtain⟨k,rfl⟩:∃k:Nat,kind=k:=⟨kind.toNat,Aa⟩;have G:=Ab0 x.a x.b;have Q:=U7 x.a x.b;have y:=GU x.s;have g:=ZM x.v;have L:0<=UU i/\UU i<=2147483647:=by rw[UU];omega
 have Y:=Ab8 (valid:=D8) (k:=k) (mk:=UU i) (p:=Fo x.a x.b) (d:=Ra x.s) (v:=Vg x.v) (wt:=x.w) Aa Aa L.1 L.2 Aa G.3 Aa Aa Aa;have c:(Ts x k i).1=k:=by rw[Ts,Ad3];grind
 have V:(Ts x k i).1<=6->(Ts x k i).p=Fo x.a x.b:=λf=>by rw[c]at f;rw[Ts,Ad3];grind
 have e:(Ts x k i).d.size<=40:=by rw[Ts,Ad3];simp[eR];split;exact y;split;exact bB _;split;exact y;split;exact bB _;exact bB _
 have q:¬(Xr x k i).1.1.length<4:=λh=>by rw[No]at Y;have P:(Uj (k:Int) (UU i) (Fo x.a x.b) (Ra x.s) (Vg x.v) x.w).1.1.length<4:=h;grind
 refine⟨?_,?_,by rwa[Xr,Ts,eR],by rw[c,eR],λf=>by rwa[V f],λ_=>e⟩;have:(Xr x k i).1.1.length=(Xr x k i).size:=iW;omega;have W:∀b,(wB b).size<=1:=λb=>by cases b<;>decide
 have:=W x.w;rw[Xr,Uj,Ai7];split;split;simp[bX,Ny,Jt];omega;exact Bgb;exact Bgb
def Sv(Tabs:iI)(gN:Nat)(Bs:iG)(u:qi)(Gd:Nat)(A:SA)(σ:ST)(l:List AS)(qs:iC)(Ft:iG):Prop:=
 ∃cu fa fc se,Hand cu D8 Tabs gN Bs u Gd A σ fa fc se qs/\se.map SI.abs=l/\Ft=Im cu A fa se
section
variable {w:iG} {X:iG} {Post:PA y F} {N:Goroutine->qi->Prop} {a:AS}
def Sv.C(h:Sv F y c u d A e l r v):=let⟨_,_,_,_,h,_⟩:=h;h.H.C
def Sv.lt(h:Sv F y c u d A e l r v){j}(a:v j):j<iZ u.1:=by obtain⟨_,_,_,_,h,_,rfl⟩:=h;exact h.H.lt a
def Sv.ge(h:Sv F y c u d A e l r v){j}(a:v j):y<=j:=by obtain⟨_,_,_,_,h,_,rfl⟩:=h;exact h.H.ge a
def Sv.D(h:Sv F y c u d A e l r v):=let⟨_,_,_,_,h,_⟩:=h;ltOf h.H.F.1.hD
def Sv.os(h:Sv F y c u d A e l r v):=let⟨_,_,_,_,h,_⟩:=h;ltOf h.os
def Sv.tr(h:Sv F y c u d A e l r v):Uh e.num e.ns/\TrN D8 e.ns:=let⟨_,_,_,_,h,_⟩:=h;⟨h.H.F.1.2,h.H.F.1.3⟩
def Sv.glob(h:Sv F y c u d A e l r v):=let⟨_,_,_,_,h,_⟩:=h;h.H.glob
def Sv.kx(h:Sv F y c u d A e l r v)(K:Ax u O X)(W:VW Dy c O)(t:∀j,v j->¬X j)(m:¬X A.D)(a:¬X d)(G:∀j,X j->y<=j):Sv F y c O d A e l r v:=by obtain⟨L,b,s,f,h,C,rfl⟩:=h;exact⟨L,b,s,f,⟨h.H.kx K W t m G,K.get h.2 a,h.3⟩,C,iW⟩
def Sv.kf(h:Sv F y c u d A e l r v)(K:Ax u O iV):=
 h.kx K (h.C.W.ofK K (λ_ _ h=>h) λ_ h=>h.elim) (λ_ _ h=>h) (λh=>h) (λh=>h) λ_ h=>h.elim
def Sv.grow(a:Sv F y c u d A e l r v)(W:VW Dy h u)(C:∀j,c j->h j)(J:∀j,h j->c j∨(y<=j/\¬v j/\j≠A.D)):Sv F y h u d A e l r v:=by obtain⟨L,b,s,f,a,T,rfl⟩:=a;exact⟨L,b,s,f,⟨a.H.grow W C J,a.2,a.3⟩,T,iW⟩
def Sv.feed(U:Hq D8 F)(h:Sv F y c u d A e l r v)(V:l[i]?=je a)(E:a.ver=1)(p:a.en=false)(j:r[i]?=je [])(k:AOk l)(Q:∀a∈l,iY a.lo+2000<=9000000000)(s:BL e){x kind n}(m:1<=kind)(M:kind<=7){ob T I}(B:SU y c u v A.D ob T I (Gj (Xr x kind n)).data.toList):Ba ow true Dy (Pq Post) 7 #[HZ d,iS a.k,Ke ob T (Gj (Xr x kind n)).data.toList.length I] u λb O=>∃G q f,Sv F y c O d A G q r f/\Je u O v f/\Fc (Ts x kind n) i e l G q:=by obtain⟨L,t,z,K,h,rfl,rfl⟩:=h;have R:=BO x m M n;(obtain⟨g,H,rfl⟩:∃g,K[i]?=je g/\g.abs=a:=by grind);apply Bf (XY U Mv h H E p j k Q s R.1 R.2 R.3 Adl R.p R.d B);rintro b O⟨X,G,C,o,w,_,D,J,W⟩;exact⟨G,_,_,⟨X,C,o,w,D,iW,iW⟩,J.moved,W⟩
def Sv.take(h:Sv F y c u d A e l r v)(V:l[i]?=je a)(E:keyOf ow 3 (iS a.k)=je (Lit.int yh a.k)):Ba ow true Dy N 8 #[HZ d,iS a.k] u λo O=>∃m f,o=.tuple #[m,iS 0]/\Sv F y c O d A e (l.set i { a with lo:=[] }) r f/\Je u O v f/\O.ownsRow 0 5 1 m (iY a.lo) (A4 a.lo)/\(∀j,m.ownBlock=je j->v j)/\∀j,m.ownBlock=je j->¬f j:=by obtain⟨L,q,s,M,h,rfl,rfl⟩:=h;(obtain⟨g,H,rfl⟩:∃g,M[i]?=je g/\g.abs=a:=by grind);apply Bf (Amd h.H h.2 iW H E);rintro o O⟨U,D,t,w⟩;refine⟨g.6,_,U,⟨L,q,s,_,⟨D,t.K.get h.2 h.3,λZ=>(t.2 _ Z).elim h.3 λZ=>by have:=ltOf h.2;omega⟩,?_,iW⟩,t.moved,w,λj G=>.inr (.inl ⟨i,g,H,.inr G⟩),λj G I=>?_⟩;rw[gW];rfl;have S:=(h.H.F.2.1 i g H).1;obtain I|I|I:=I;obtain⟨C,J,_,Y⟩:=h.H.F.1.obj h.H.F.3 I;obtain⟨cs,K⟩:=Ex S.4 G;grind;obtain⟨k,p,Q,b⟩:=I;by_cases n:i=k;subst n;rw[cC ((aF.1 H).1)]at Q;obtain rfl:=aC Q;obtain b|b:=b;exact S.5 j G (b▸S.1);cases b;rw[bI n]at Q;obtain b|b:=b;exact S.5 j G (b▸(h.H.F.2.1 k p Q).1.1);exact(h.H.F.2.2 i k g p H Q n).2 j G b;obtain⟨k,p,Q,b⟩:=I;obtain⟨x,X,z⟩:=Mi t.3 k p Q;obtain⟨_,_,_,_,_,_,B⟩:=h.H.Q.1 k x X;rw[z]at b;exact(B j b).2.2 ⟨i,g,H,.inr G⟩
end
structure GQ(u0 Tabs gN Bs u os ot A B)(σ τ)(l k qs rs Fs Ft):Prop where
 s:Sv Tabs gN Bs u os A σ l qs Fs
 t:Sv Tabs gN Bs u ot B τ k rs Ft
 ap:∀j,Fs j->¬Ft j
 sD:¬Ft A.D
 tD:¬Fs B.D
 so:¬Ft os
 te:¬Fs ot
 kl:Ax u0 u (λj=>gN<=j)
section
variable {m:qi} {os:Nat} {B:SA} {G g d:ST} {k V q:List AS} {i a j:iC} {w I:iG}
def GQ.kf(T:GQ m F y c u os b A B e g l k r i w v)(K:Ax u O iV):GQ m F y c O os b A B e g l k r i w v:=⟨T.s.kf K,T.t.kf K,T.ap,T.4,T.5,T.6,T.7,T.8.trans (K.mono λ_ h=>h.elim)⟩
def GQ.mvT(T:GQ m F y c u os b A B e g l k r i w v)(S:Sv F y c O b B d q j f)(M:Je u O v f):GQ m F y c O os b A B e d l q r j w f:=⟨T.s.kx M.K S.C.W T.3 T.4 T.6 λa n=>T.t.ge n,S,λa s R=>(M.2 a R).elim (T.3 a s) λh=>by have:=T.s.lt s;omega,λh=>(M.2 _ h).elim T.4 λh=>by have:=T.s.D;omega,T.5,λh=>(M.2 _ h).elim T.6 λh=>by have:=T.s.os;omega,T.7,T.8.trans (M.K.mono λa n=>T.t.ge n)⟩
def GQ.mvS(T:GQ m F y c u os b A B e g l k r i w v)(S:Sv F y c O os A G V a I)(M:Je u O w I):GQ m F y c O os b A B G g V k a i I v:=⟨S,T.t.kx M.K S.C.W (λj R s=>T.3 j s R) T.5 T.7 λj d=>T.s.ge d,λj s R=>(M.2 j s).elim (λh=>T.3 j h R) λh=>by have:=T.t.lt R;omega,T.4,λh=>(M.2 _ h).elim T.5 λh=>by have:=T.t.D;omega,T.6,λh=>(M.2 _ h).elim T.7 λh=>by have:=T.t.os;omega,T.8.trans (M.K.mono λj d=>T.s.ge d)⟩
end
def Ad1{v e}{s:iE}(h:iY s<=9000000000):AOk [⟨1,v,e,s⟩]:=by refine⟨Ae,Ae,λp Q=>?_,λp Q=>?_⟩;simp at Q;subst Q;exact PK;grind
def Ye{t m}{X:iK}(h:w.ownsRow 0 5 1 t m X):∃C U,t=.slice C m U:=by obtain⟨e,F⟩|⟨g,I,H,e,_⟩:=h.2;grind;exact⟨_,_,e⟩
section
def Sv.bin(h:Sv F y c u d A e l r v)(K:Ax u O iV){cs:iJ}{fz}{s:iF}{a}(D:O.1[iZ u.1]?=je (.cells cs 5 fz))(V:I9 cs)(M:s.size<=a)(o:Bytes O u.1.size 0 s.data.toList):SU y c O v A.D (je u.1.size) 0 a s.data.toList:=by obtain⟨_,_,_,_,h,_,rfl⟩:=h;exact SU.new h.H K D V M o
end
section
variable {z p:Nat->Value×Value} {o:iD} {Post:PA y F} {h:qi} {D:Nat}
set_option maxRecDepth 8000 in
set_option maxHeartbeats 1000000 in
def Ak0(U:Hq o F)(C:Cx F y Dy c u)(E:∀h,F h->E8 h)(k:∀b,Em b=true->Jr o b)(I:o iU=true)(G:∀m<8,∃r e fz,u.1[m]?=je (.cells r e fz))(J:Mx u D K (-1) [] zt 0)(L:y<=D)(v:y<=K)(N:¬c D)(W:¬c K):Ba ow true Dy (Pq Post) 5 #[HZ D] u λx O=>∃P A p f g h d,x=.tuple #[HZ P,iS 1]/\Hand p o F y (λj=>c j∨j=d) O P A { σ0 with last:=1 } f g h [[]]/\A.D=D/\A.K=K/\iZ u.1<=P/\iZ u.1<=d/\(∀j,Im p A f h j->j=K∨iZ u.1<=j)/\Ax u O (· = K)/\h.map SI.abs = [⟨1,1,false,[]⟩]/\(h.map λb=>(b.k,b.b)) = [(1,d)]:=by
 apply Ht Tryz.func5 Ac iW;simp only[Tryz.ntmps5,na,Nat.reduceAdd,Nat.reduceSub];refine G9s ?_;refine Wad ?_;refine K9h ?_;refine G9s ?_;refine V2g ?_;refine A0 (Aqz U I (λb a _ _=>k b a) E (λb a=>(k b a).3) ⟨vw0 u,C.G,λ_ a=>a.elim,C.4,C.5⟩ G J L v (λg e=>M2) (bB _) (λf a=>by cases a) di0 SF (.done []) (rs':=[]) λr a=>by cases a) iW Ac iW Af ?_;rintro x Z⟨P,z,M,sm,tb,t,L',n,S,rfl,s,V,R⟩;obtain rfl:=R.10 iW;have H:=R.g.k;refine Haw ?_;refine N2m ?_;iterate 6 (refine V2g ?_)
 refine N2i ?_;refine Pv2 ?_;have w:∀j,(j=K∨Cl zt=je j)->y<=j:=λj a=>a.elim (λe=>by rwa[e]) λe=>M2;have q:F9 (λ_=>(.slice zt 0 0,o0 false)) o F y c Z ⟨z,D,K,tb,t,M,sm⟩ σ0 n S [] []:=R.fuld SF k (C.kx H (C.W.ofK H (λj d a=>a.elim (λe=>W (e▸d)) λe=>M2) λ_ a=>a.elim) w) (J3 G H λj a=>aD C.5 (w j a)) C.4 (λj l=>C.W.lt l) L v N W λg e=>M2;have T:¬Im (λ_=>(.slice zt 0 0,o0 false)) ⟨z,D,K,tb,t,M,sm⟩ n [] P:=by rintro(a|a|⟨m,b,Q,_⟩);exact q.F.off s iW (.inl a);exact q.F.off s iW (.inr a);simp at Q
 have B:∀{j},Im (λ_=>(.slice zt 0 0,o0 false)) ⟨z,D,K,tb,t,M,sm⟩ n [] j->j=K∨iZ u.1<=j:=λa=>by obtain a|a|a:=R.foot a;exact .inl a;cases a;exact .inr a
 have X:AOk (([]:List SI).map SI.abs++[⟨1,0,false,[]⟩]):=by refine⟨Ae,Ae,λb Q=>?_,λb Q=>?_⟩;simp at Q;subst Q;exact PK;grind
 refine G9s ?_;refine V2g ?_;refine A0 (Ahm (Post:=Post) (k:=1) U q s iW T iW iW (.inl ⟨iW,iW⟩) Ae (λb Q=>by simp at Q) X (λaa Y=>by simp at Y)) iW Ac iW Af ?_;rintro x u2⟨rfl,p,f,g,h,H2,i,a1,a6⟩;walk_nrm;refine T03 ?_;refine Ne8 ?_;refine Qit ?_;refine N2i ?_;refine Pv2 ?_;refine G9s ?_;refine Ldr ?_;refine K9h ?_;have ab:=ltOf s;have a7:∀j,Im p ⟨z,D,K,tb,t,M,sm⟩ f h j->j=K∨iZ u.1<=j:=λj l=>by obtain a|a:=i.2 j l;exact B a;exact .inr Aa
 refine Ca ⟨.inr iW,iW,.tuple #[HZ P,iS 1],λa8=>by simp[results,Tryz.results5,go_sem],λa8 e he=>?_,P,_,p,f,g,h,iZ Z.1,iW,⟨H2,i.K.get s T,(λa=>(i.2 _ a).elim T λa=>Aa)⟩,iW,iW,V,H.4,a7,((H.mono λj a=>a.elim id λe=>M2).trans' i.K λj l En=>(B l).elim id λa=>Aa),by simpa using a1,by simpa using a6⟩;simp[results,Tryz.results5,go_sem]at he
end
section
variable {Post:PA y F} {f:iL} {D:Nat}
def Apl(F:iI)(y:Nat)(c:iG)(u u':qi)(D K os:Nat):Prop:=
 ∃A Fs b,Sv F y (λj=>c j∨j=b) u' os A { σ0 with last:=1 } [⟨1,1,false,[]⟩] [[]] Fs/\A.D=D/\(∀j,Fs j->j=K∨iZ u.1<=j)/\iZ u.1<=os/\iZ u.1<=b/\Ax u u' (· = K)/\¬Fs D
def Al3(U:Hq D8 F)(b:∀w,F w->E8 w)(C:Cx F y Dy c u)(G:∀i<8,∃d e l,u.1[i]?=je (.cells d e l))(g:Mx u D K (-1) [] zt 0)(L:y<=D)(v:y<=K)(N:¬c D)(W:¬c K):Ba ow true Dy (Pq Post) 5 #[HZ D] u λx O=>∃a,x=.tuple #[HZ a,iS 1]/\Apl F y c u O D K a:=by apply Bf (Ak0 (Post:=Post) U C b (λp h=>Ju h) Mv G g L v N W);rintro x O⟨a,A,X,o,q,w,r,rfl,H,m,t,n,s,T,j,z,f⟩;refine⟨a,iW,A,_,r,⟨X,o,q,w,H,z,iW⟩,m,T,n,s,j,λh=>?_⟩;have J:=H.H.F.1.notD H.H.F.3;have k:=H.H.F.1.offD H.H.F.2;rw[m]at J k;obtain h|h|⟨i,p,Q,G⟩:=h;exact J h;exact k h;have ⟨B,_,_,_,j,_⟩:=H.H.Q.1 i p Q;exact(H.H.F.offP j G).2 m.symm
end
end Go.Proofs.Y

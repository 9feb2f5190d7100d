import Derived.Test.YtnepogbkiocdhaaGreatDoorQ02
set_option linter.all false
open Go renaming World->qi,Goroutine->gy,Value->p8,Program->jd,Trace->zq,FuncId->mf,yielded->yw,undef->re,Oper->xe,TypeId->uy,Loop->zz,TypeInfo->vu,results->yo,Item->jc,wanted_put->ru,Operand->jf,getObj->iq,setObj->gk
open Option renaming some->je,none->zt
open Bool renaming true->jz,false->vy
open Go.Conc renaming served->kt,mem_ofEvents->xy,deafBehind_still->o6,mem_seen->qq,Goes->gz,Deaf_own->xr
open Go.Sem renaming runT_eq->qg,bind->rj,runT->l6
open Go.Instr renaming enterLoop->wi,takeDeferred->sw,beginRound->oj,getLoop->im,yield->uh,endRound->po,endLoop->oy
open Array renaming replicate->o2,getElem?_push_lt->zj,size->iZ
open Pure renaming pure->th
open Go.World renaming cell?->yg
open Go.CallKind renaming early->yj
open Go.ConcN renaming Deaf_still->jl
open Bind renaming bind->uf
open Go.Obj renaming isChan->vg,cells->pf
open Go.Obj.cells renaming injEq->oo
open List renaming map->yq,length->iY
open Go.Value renaming func->ni,bool->o0,tuple->gq
open Go.Act renaming put_comm->o3
open Go.Trace renaming g?->xd
open Go.Deferred renaming ofValue->pt
open Or renaming inl->zk,inr->qx
open Go.Pair renaming Ren->O,Tree->H
open Go
variable {Bs S c:iG}{I M W i k q r rb s:Nat}{K:gy->gy->qi->zq->Prop}{N:gy->qi->Prop}{P:jd}{R a b g g' m:gy}{U d h v v' w:qi}{Y:iP}{Z:List (Array p8)}{args:Array jf}{e:Bool}{f fn:mf}{p:Prop}{t:zq}{tmps:iJ}{x z:p8}
def Geh(h:p:=by
 have:=S i (aB V a.glob);unfold sh at this;rw[this,(a.fix i V)]):p:=h
def X5d(h:p:=by
 obtain⟨c,Z,rfl⟩:=Conc.mem_ofEvents T;obtain⟨b,rfl,_,K⟩:=N c Z;exact K):p:=h
def Epz(h:p:=by
 obtain⟨c,Z,rfl⟩:=Conc.mem_ofEvents T;rcases Xw (N c Z) D with i|⟨r,i,J,k⟩
 ·exact .inl (.inl i)
 grind):p:=h
def R1z(h:p:=by
 exact .inl ⟨G.running (λx _ h=>by rw[h.1];exact h.2) w (Nt.RoR.refl w),Aa⟩):p:=h
def To5(h:p:=by
 rw[e];exact h.imp id λh=>h.imp id fun⟨m,C,J⟩=>⟨m,C,Goes.rely (R:=D.L.RoR) (λ_ _ _=>Nt.RoR.trans) J Y⟩):p:=h
def T5f(h:p:=by
 have d:(B9 n a).tmps=a.tmps.map (A2 n):=iW
 rwa[d,Gi]):p:=h
def Jfl(h:p:=by
 rcases Z with rfl|⟨rfl,rfl⟩
 ·exact .inl iW
 ·exact .inr ⟨iW,iW⟩):p:=h
def Uq4(h:p:=by
 have M:∀d∈listed P b.fn (B9 n a) o W,d∈L.map (Lr n):=λd u=>r d (mem_seen u);rcases h with rfl|⟨rfl,rfl⟩
 ·refine⟨f,_,L,?_,T,q,c,M⟩;have:=stepG_value (P:=P) (main:=main) (b:=b) (a:=B9 n a) (rest:=l) (k:=k.map (Dh n)) (cs:=z.map (Bp n)) (w:=W) O B K C
  rwa[Og]at this
 ·refine⟨f,_,L,?_,T,q,c,M⟩;have:=Ub (P:=P) (main:=main) (b:=b) (a:=B9 n a) (rest:=l) (k:=k.map (Dh n)) (cs:=z.map (Bp n)) (w:=W) O B K C;have d:=Og n a o.dst undef;rw[E7]at d
  rwa[d]at this):p:=h
def Gzk(h:p:=by
 simp only[bN,fT,aU]at h;obtain⟨_,_,rfl⟩:=h;exact Oy Ae):p:=h
def Wwv(h:p:=by
 obtain⟨j,_,Y⟩:=Y;by_cases d:k.bytes=0
 ·simp only[d,bV]at Y;exact u Y (b _)
 ·simp only[d,cB]at Y;exact u Y (b _)):p:=h
def Bic(h:p:=by
 simp only[eG,bN,fT,aU]at h;obtain⟨_,_,_,_,rfl⟩:=h;exact Oy Ae):p:=h
namespace Go.Pair
variable {E T j:Tree}{L X:Array Event}{Own' Q y:iH}{assign body:Code}{cs:List Frame}{l:Loc}{n u:O}{o:Obj}{params:Array Tmp}
open Go Go.Conc
section
variable {m q:O}
def Wa{a:Type}{f g R:a->a}{c:List a}(M:c.map f=c)(h:∀y∈c,f y=y->g y=R y):c.map g=c.map R:=by refine cQ λy U=>h y U ?_;obtain⟨i,V,rfl⟩:=bO.1 U;grind
def Mk(h:n.Ag m q){c:iJ}(M:c.map (A2 n)=c):=U4 M λy _ e=>Jl h y e
def Akt(h:n.Ag m q){t}(R:Yl n t=t):Yl m t=Yl q t:=by cases t with|fn f c=>simp only[Yl,Target.fn.injEq]at R⊢;exact⟨YX h R.1,Mk h R.2⟩|collected r=>simp[Yl,Target.collected.injEq]at R⊢;exact h r R|_=>rfl
def BD(h:n.Ag m q){d}(y:Qh n d=d):Qh m d=Qh q d:=by have ⟨t,c⟩:=d;simp only[Qh,Deferred.mk.injEq]at y⊢;exact⟨Akt h y.1,Mk h y.2⟩
def Akp(h:n.Ag m q){d}(y:Jb n d=d):Jb m d=Jb q d:=by have ⟨k,v,b⟩:=d;simp[Jb,MapEntry.mk.injEq,and_true]at y⊢;exact⟨Jl h _ y.1,Jl h _ y.2⟩
def Aks(h:n.Ag m q)(O:Dr n o=o):Dr m o=Dr q o:=by cases o with|cells c e p=>simp only[Dr,oo,and_true]at O⊢;exact Mk h O|pending c e=>simp only[Dr,Obj.pending.injEq,and_true]at O⊢;exact Mk h O|view a t=>simp[Dr,Obj.view.injEq,and_true]at O⊢;exact MT h O|number a d=>simp[Dr,Obj.number.injEq,and_true]at O⊢;exact MT h O|map X C=>simp only[Dr,Obj.map.injEq,and_true]at O⊢;exact U4 O λy _ e=>Akp h e|chan I f x s r t=>simp only[Dr,Obj.chan.injEq,and_true,true_and]at O⊢;exact Mk h O|mapIter b u se v=>(cases b with|none=>rfl|some b=>simp[Dr,aI,Obj.mapIter.injEq,aU,and_true]at O⊢;exact h b O)|loop l=>have ⟨g,i,S,j,Y,k,M,w⟩:=l;simp only[Dr,Obj.loop.injEq,Loop.mk.injEq, true_and]at O⊢;exact⟨Mk h O.1,h _ O.2⟩|deferred cs=>(cases cs with|none=>rfl|some l=>simp only[Dr,aI,Obj.deferred.injEq,aU]at O⊢;exact Wa O λy _ e=>BD h e)|finalizers L r=>simp only[Dr,Obj.finalizers.injEq,and_true]at O⊢;refine U4 O λy _ e=>?_;have ⟨a,d⟩:=y;simp[dE]at e⊢;exact⟨h a e.1,BD h e.2⟩|_=>rfl
def Akq(h:n.Ag m q){x}(Z:Dh n x=x):Dh m x=Dh q x:=by cases x with|inRangeFunc l=>simp[Dh,Item.inRangeFunc.injEq]at Z⊢;exact h l Z|endRangeFunc l=>simp[Dh,Item.endRangeFunc.injEq]at Z⊢;exact h l Z|call d w r s=>simp only[Dh,Item.call.injEq,true_and]at Z⊢;exact⟨BD h Z.1,Mk h Z.2⟩|extern r a=>simp only[Dh,Item.extern.injEq,true_and]at Z⊢;exact Mk h Z|_=>rfl
def QW(h:n.Ag m q){X}(I:Bp n X=X):Bp m X=Bp q X:=by obtain⟨u,b,d,c,a,kind,Y⟩:=X;simp only[Bp,Frame.mk.injEq,true_and]at I⊢;refine⟨Mk h I.1,Wa I.2.1 λy _ e=>Akq h e,Wa I.2.2.1 λy _ e=>BD h e,?_,?_⟩;(cases a with|panicking f=>simp only[Kh,FrameMode.panicking.injEq]at I⊢;refine Wa I.2.2.2.1 λy _ e=>?_;obtain⟨v,r,g⟩:=y;simp[PanicEntry.mk.injEq,and_true]at e⊢;exact Jl h v e|_=>rfl);cases Y with|none=>rfl|some l=>simp[aI,aU]at I⊢;exact h l I.2.2.2.2
def Wt(h:n.Ag m q){g}(G:Bt n g=g):Bt m g=Bt q g:=by have ⟨a,b,c,d,e⟩:=g;simp only[Bt,Goroutine.mk.injEq,and_true]at G⊢;exact⟨QW h G.1,Wa G.2 λy _ e=>QW h e⟩
def LikeO.ag{J I}(h:n.Ag m q)(s:LikeO n J i o o)(K:LikeO m J i o I):LikeO q J i o I:=by
 obtain rfl|⟨c,B,e,d,rfl,rfl,N,M⟩|K|K:=K;obtain e|⟨c,B,e,d,rfl,L,N,M⟩|⟨l,z,_⟩|⟨B,e,d,rfl,L⟩:=s;exact zk (Aks h e.symm);cases L;refine qx (zk ⟨c,_,e,d,iW,iW,Ae,λj l=>?_⟩);rw[aM];have:=M j l;cases U:c[j]? with|none=>rfl|some x=>rw[U]at this;exact aK je (Jl h x (aC this).symm)
 exact qx (qx (zk ⟨⟨l.1,Pg _ _⟩,z,Hw z⟩));exact qx (qx (qx ⟨_,_,_,iW,iW⟩));refine qx (zk ⟨c,B,e,d,iW,iW,N,λj l=>?_⟩);rw[M j l];cases U:c[j]? with|none=>rfl|some x=>apply aK je;obtain S|⟨Q,f,S,R,L,Y,_,g⟩|⟨_,z,_⟩|⟨f,S,R,L,Y⟩:=s;simp[Dr,oo,and_true]at S;have:=aK (λa:Array p8=>a[j]?) S;simp only[aM,U]at this;exact Jl h x (aC this).symm;cases L;cases Y;have:=g j l;rw[U]at this;exact Jl h x (aC this).symm;exact absurd iW (z _ _ _);cases L;simp at U
 exact qx (qx (zk K));exact qx (qx (qx K))
def LikeO.self{J I}(h:LikeO n J i o I)(C:LikeO .one J i o I):LikeO n J i o o:=by by_cases z:Cn o;obtain rfl|⟨c,B,e,b,rfl,_⟩|⟨l,_⟩|⟨B,e,b,rfl,_⟩:=C;rwa[EE]at h;exact absurd iW (z _ _ _);exact qx (qx (zk ⟨⟨l.1,iW⟩,z,z⟩));exact absurd iW (z _ _ _);cases o with|cells c e b=>obtain rfl|⟨Q,B,S,R,L,rfl,N,M⟩|⟨_,Z,_⟩|⟨B,S,R,L,rfl⟩:=C;rwa[EE]at h;cases L;obtain Y|⟨f,U,Y,d,s,t,T,x⟩|⟨_,Z,_⟩|⟨f,Y,d,s,t⟩:=h;simp[Dr,oo,and_true]at Y;refine qx (zk ⟨c,c,e,b,iW,iW,iW,λj l=>?_⟩);have:=M j l;rw[Y,aM]at this;rw[this];cases c[j]?<;>simp[Fb];cases s;cases t;refine qx (zk ⟨c,c,e,b,iW,iW,iW,λj l=>?_⟩);have a:=x j l;rw[(M j l)]at a;rw[←a];cases c[j]?<;>simp[Fb];exact absurd iW (Z _ _ _);cases s;exact qx (qx (qx ⟨_,_,_,iW,iW⟩));exact absurd iW (Z _ _ _);cases L;exact qx (qx (qx ⟨_,_,_,iW,iW⟩))|_=>exact absurd (λ_ _ _ e=>M2) z
end
structure Wf(J g)(v:qi):Prop where
 mem:∀i(o:Obj),v.1[i]?=je o->LikeO (.up v.1.size) J i o o
 gor:Bt (.up v.1.size) g=g
section
variable {J:iH}
def Wf.at(h:Wf J g v)(d):Wf J g (v.at d):=⟨h.mem,h.2⟩
def ZJ{m}(h:M<=m):(O.up M).Ag (.up M) (.up m):=λi V=>by rw[V,I7 (by have:=Aig.1 V;omega)]
def Wf.sm(h:Wf J g v){M}(b:iZ v.1<=M):Sm (.up M) M J v v/\Bt (.up M) g=g:=by refine⟨⟨λj l=>I7 l,λi V=>by rwa[I7 Aa],λi V=>?_,λi o O=>⟨o,?_,LikeO.ag (ZJ b) (h.1 i o O) (h.1 i o O)⟩,iW,iW,iW,iW⟩,?_⟩;by_cases b:i<M;rwa[I7 b];rw[Aru Aa];omega;rwa[I7 Aj];rw[←Wt (ZJ b) h.2,h.2]
def Aot(v t):Sm .one t J v v:=⟨λj _=>rfl,λi V=>V,λi V=>V,λi o O=>⟨o,O,zk (EE o).symm⟩,iW,iW,iW,iW⟩
def Wf.step(p:P.globals.size<=iZ v.1)(h:Wf J g v)(s:H0 P e J g v R U):Wf J R U:=by have ⟨X,f,_⟩:=s.3;have ⟨l,c⟩:=h.sm f.1;have ⟨H,S,D,m,d,Q,_⟩:=s.4 _ U.1.size v (Ren.up_fixG (aD p f.1)) (aA _) l;have ⟨E,L,K,a,k,t,_⟩:=s.4 .one U.1.size v (Ren.one_fix _) (aA _) (Aot v _);rw[c]at m;rw[QX,QX,m]at a;injection a with N j q;subst j;refine⟨λi o O=>?_,N⟩;have ⟨n,C,B⟩:=d.4 i o O;have ⟨I,r,Z⟩:=k.4 i o O;rw[I7 ((aJ.1 O).1)]at C;have b:H.1[i]?=je I:=r;rw[C]at b;cases b;exact LikeO.self B Z
end
def Ren.grow(n k W)(h:∀i<k,sh n i<W):O:=⟨λi=>if i<k then n.f i else W+(i - k),λ{i j} e=>by split at e<;>split at e;exact n.2 e;rename_i h1 h2;have:=h i h1;rw[sh]at this;omega;rename_i h1 h2;have:=h j h2;rw[sh]at this;omega;omega⟩
def AV{h:∀i<k,sh n i<W}(V:i<k):sh (n.grow k W h) i=sh n i:=aL V
def YC{h:∀i<k,sh n i<W}(V:k<=i):sh (n.grow k W h) i=W+(i - k):=aO Aa
section
variable {J:iH}
structure Apart(n)(J:iH)(v:qi)(X:Array Event):Prop where
 cell:∀e∈X,e.write=jz->∀i j,e.loc=.cell ⟨sh n i,j,zt⟩->(∃x,v.cell? (iR i j)=je x)->J (.cell (iR i j))
 obj:∀e∈X,e.write=jz->∀i o,e.loc=.obj (sh n i)->v.1[i]?=je o->Cn o->J (.obj i)
def Cm{c:iJ}{e a}(h:w.1[r]?=je (pf c e a))(j):w.cell? (iR r j)=c[j]?:=by simp[yg,h]
def LikeO.other(g:Apart n J v X)(f:Dd h d X){s}(q:v.1[i]?=je o)(W:h.1[sh n i]?=je s)(y:LikeO n J i o s):∃I,d.1[sh n i]?=je I/\LikeO n J i o I:=by
 have row:∀c B(e:uy)b,o=pf c e b->s=pf B e b->B.size=c.size->(∀j,¬J (.cell (iR i j))->B[j]?=(c[j]?).map (A2 n))->∃I,d.1[sh n i]?=je I/\LikeO n J i o I:=λc B e b t k N M=>by subst t k;obtain⟨R,a,m⟩:=f.4 _ _ _ _ W;refine⟨_,a,qx (zk ⟨c,R,e,b,iW,iW,m.trans N,λj l=>?_⟩)⟩;rw[←M j l,←Cm a j,←Cm W j];by_cases Y:j<c.size;refine f.2 ⟨sh n i,j,zt⟩ ((aJ.1 W).1) λH r K D=>l (g.1 H r K i j D ⟨c[j],?_⟩);rw[Cm q j];exact aN Y;rw[Cm a j,Cm W j,cW Aa,cW Aa]
 obtain rfl|⟨c,B,e,b,rfl,rfl,N,M⟩|⟨l,C,a⟩|⟨B,e,b,rfl,rfl⟩:=y;by_cases z:Cn o;by_cases Z:∀H∈X,H.2=jz->H.1≠.obj (sh n i);exact⟨_,f.3 _ _ W (Hw z) Z,zk iW⟩;obtain⟨I,a,u,p⟩:=f.5 _ _ W (Hw z);refine⟨I,a,qx (qx (zk ⟨⟨?_,p.trans (Pg n o)⟩,z,u⟩))⟩;refine cX λx=>Z λH r K D=>x (g.2 H r K i o D q z);cases o with|cells c e b=>exact row c (c.map (A2 n)) e b iW iW Ae λj _=>aM ..|_=>exact absurd (λ_ _ _ e=>M2) z
 exact row c B e b iW iW N M;obtain⟨I,T,w,A⟩:=f.5 _ _ W a;exact⟨I,T,qx (qx (zk ⟨⟨l.1,A.trans l.2⟩,C,w⟩))⟩;obtain⟨R,a,_⟩:=f.4 _ _ _ _ W;exact⟨_,a,qx (qx (qx ⟨_,_,_,iW,iW⟩))⟩
def Sm.lt'{t}(s:Sm n t J v h)(f:Dd h d X):∀i<iZ v.1,sh n i<iZ d.1:=λi V=>aB (s.lt i V) f.size
def Sm.other{t}(s:Sm n t J v h)(W:Wf J m v)(a:Apart n J v X)(f:Dd h d X)(S):Sm (n.grow v.1.size d.1.size (s.lt' f)) S J (v.at d.drawn) d/\Bt (n.grow v.1.size d.1.size (s.lt' f)) m=Bt n m:=by have b:(Ren.up v.1.size).Ag n (n.grow v.1.size d.1.size (s.lt' f)):=XK λi V=>(AV V).symm;refine⟨⟨λj _=>?_,λi V=>?_,λi V=>?_,λi o O=>?_,(f.6.trans s.5),iW,(f.7.trans s.7),(f.8.trans s.8)⟩,(Wt b W.2).symm⟩;show sh _ (iZ v.1+j)=_;rw[YC Aa];omega;have p:i<iZ v.1:=V;rw[AV p];exact s.lt' f i p;have p:iZ v.1<=i:=V;rw[YC p];omega;have G:v.1[i]?=je o:=O;obtain⟨e,C,c⟩:=s.4 i o G;obtain⟨I,T,q⟩:=c.other a f G C;rw[AV (aJ.1 G).1];exact⟨I,T,LikeO.ag b (W.1 i o G) q⟩
end
def Jf(v:qi):Loc->Prop
 |.cell a=>∃x,v.cell? a=je x
 |.obj r=>∃o,v.1[r]?=je o/\Cn o
 |_=>False
def Qs(B:Nat):Loc->Prop
 |.cell a=>a.block<B
 |.obj r=>r<B
 |_=>False
def FK(B:Nat):Loc->Prop
 |.cell a=>B<=a.block
 |.obj r=>B<=r
 |_=>False
def NQ(Own:iH)(Cs:iG)(B:Nat)(e:Event):Prop:=
 match e.loc with
 |.cell a=>Own (.cell a)/\a.block<B
 |.obj r=>(Own (.obj r)∨(Cs r/\e.write=vy/\e.sync=jz))/\r<B
 |.mark m=>Amm m
 |_=>False
structure Dp(P:jd)(n)(J Own:iH)(g v w):Prop where
 sm:∀t,Sm n t J v w
 fix:n.Fix P.globals.size
 glob:P.globals.size<=iZ v.1
 wf:Wf J g v
 own:∀l,Jf v l->¬J l->Own (Ha n l)
section
variable {J Own:iH}
def Sm.less{t S}(a:Sm n t J v h)(R:S<=t):Sm n S J v h:=⟨λj l=>a.top j Aa,a.lt,a.out,a.4,a.tape,a.drawn,a.os,a.output⟩
def Dp.at(a:Dp P n J Own g v h)(d):Dp P n J Own g (v.at d) (h.at d):=⟨λt=>(a.sm t).at d,a.fix,a.glob,a.wf.at d,a.own⟩
def Dp.drawn(a:Dp P n J Own g v h):=(a.sm 0).drawn
def Dp.mono(a:Dp P n J Own g v h)(H:∀l,Own l->Own' l):Dp P n J Own' g v h:=⟨a.sm,a.fix,a.glob,a.wf,λl K b=>H _ (a.own l K b)⟩
def Vb(f:Dd v v' X)(W:Jf v' l):Jf v l∨FK v.1.size l:=by cases l with|cell a=>by_cases Y:a.1<iZ v.1;left;obtain⟨x,Z⟩:=W;have O:v.1[a.1]?=je v.1[a.1]:=aN Y;show ∃x,v.cell? a=je x;(cases b:v.1[a.1] with|cells c e d=>rw[b]at O;obtain⟨B,C,J⟩:=f.4 _ _ _ _ O;rw[yg]at Z⊢;grind|_=>exfalso;rw[b]at O;obtain⟨I,C,J⟩:=f.5 _ _ O (λ_ _ _ e=>M2);rw[yg,C]at Z;cases I with|cells c e d=>exact J.1 _ _ _ iW|_=>simp at Z);exact qx (by show iZ v.1<=a.1;omega)|obj r=>by_cases Y:r<iZ v.1;left;obtain⟨I,C,J⟩:=W;have O:v.1[r]?=je v.1[r]:=aN Y;refine⟨_,O,λc e d b=>?_⟩;rw[b]at O;obtain⟨B,T,_⟩:=f.4 _ _ _ _ O;rw[C]at T;exact J _ _ _ (aC T);exact qx (by show iZ v.1<=r;omega)|_=>exact W.elim
def Alc{t}(a:Sm n t J v h)(K:FK v.1.size l):FK h.1.size (Ha n l):=by cases l with|cell b=>exact a.3 _ K|obj r=>exact a.3 _ K|_=>exact K.elim
def Oa{t}(a:Sm n t J v h){l}(K:Jf v l):Qs h.1.size (Ha n l):=by cases l with|cell b=>have ⟨x,Z⟩:=K;exact a.2 _ (Lb Z)|obj r=>have ⟨o,O,_⟩:=K;exact a.2 _ (aJ.1 O).1|_=>exact K.elim
def Dp.step(a:Dp P n J Own g v h)(s:H0 P e J g v g' v')(H:∀l,Qs h.1.size l->Own l->Own' l)(S:∀l,FK h.1.size l->Own' l):∃B X L,stepG P e (Bt n g) h=.go (Bt n g') B X/\Dp P n J Own' g' v' B/\Dd h B L/\(∀b∈L,NQ Own' (λx=>∃r,J (.obj r)/\x=sh n r) B.1.size b)/\∀b∈X,b∈L:=by
 obtain⟨B,X,L,C,y,T,q,p⟩:=s.4 n v'.1.size h a.2 (aA _) (a.1 _);obtain⟨F,Q,_⟩:=s.3;have u:∀t,Sm n t J v' B:=λt=>by obtain⟨E,m,w,f,k,_⟩:=s.4 n (max t v'.1.size) h a.2 (Nat.le_max_right ..) (a.1 _);rw[C]at f;injection f with _ b _;subst b;exact k.less (Nat.le_max_left ..)
 have d:∀l,Jf v' l->¬J l->Own' (Ha n l):=λl K c=>by obtain x|x:=Vb Q K;exact H _ (Oa (a.1 0) x) (a.5 l x c);exact S _ (Alc (a.1 0) x)
 refine⟨B,X,L.map (Lr n),C,⟨u,a.2,aD a.3 Q.1,a.4.step a.3 s,d⟩,T,λb N=>?_,p⟩;obtain⟨x,Z,rfl⟩:=Array.mem_map.1 N;obtain⟨K,c⟩:=q x Z;obtain⟨j,D,Y⟩:=x;cases j with|cell i=>exact⟨d (.cell i) K c.cell,Oa (u 0) (l:=.cell i) K⟩|obj r=>obtain⟨o,O,z,_⟩:=K;refine⟨?_,Oa (u 0) (l:=.obj r) ⟨o,O,z⟩⟩;by_cases W:J (.obj r);exact qx ⟨⟨r,W,iW⟩,(c W).2.1,(c W).2.2⟩;exact zk (d (.obj r) ⟨o,O,z⟩ W)|mark A=>exact K|_=>exact K.elim
def Dp.other(a:Dp P n J Own g v h)(f:Dd h d L)(N:∀e∈L,e.write=jz->Qs h.1.size e.loc->¬Own e.loc)(H:∀l,Qs h.1.size l->Own l->Own' l):∃D,Dp P D J Own' g (v.at d.drawn) d/\Bt D g=Bt n g/\∀i<iZ v.1,sh D i=sh n i:=by have j:=λc=>(a.1 0).other a.4 (⟨λe Z W i k K⟨x,s⟩=>cX λb=>N e Z W (K▸Oa (a.1 0) (l:=.cell (iR i k)) ⟨x,s⟩) (K▸a.5 (.cell (iR i k)) ⟨x,s⟩ b),λe Z W i o K O M=>cX λb=>N e Z W (K▸Oa (a.1 0) (l:=.obj i) ⟨o,O,M⟩) (K▸a.5 (.obj i) ⟨o,O,M⟩ b)⟩) f c;have S:∀i<iZ v.1,sh (n.grow v.1.size d.1.size ((a.1 0).lt' f)) i=sh n i:=λi V=>AV V;(have m:∀l,Jf v l->Ha (n.grow v.1.size d.1.size ((a.1 0).lt' f)) l=Ha n l:=λl K=>by cases l with|cell p=>have ⟨x,Z⟩:=K;simp[Ha,Ew,S _ (Lb Z)]|obj r=>have ⟨o,O,_⟩:=K;simp[Ha,S _ (aJ.1 O).1]|_=>exact K.elim);refine⟨_,⟨λc=>(j c).1,λi V=>?_,a.3,a.4.at _,λl K b=>?_⟩,(j 0).2,S⟩;exact Geh;have R:=K;rw[m l R];exact H _ (Oa (a.1 0) R) (a.5 l R b)
end
section
variable {N:Nat} {LA LB b f:qi->Loc->Bool->Prop} {u:zq} {a e:Nat}
def Ap0(t:zq)(g){l:List MemOp}(a:∀b∈l,∀m,b.act≠.mark m):∀d,l.foldl (deafStep g) d=d:=by induction l with|nil=>exact λ_=>rfl|cons y l O=>intro d;have U:=a y Ae;(have e:deafStep g d y=d:=by have ⟨c,G,h,P⟩:=y;cases P<;>first|rfl|exact absurd iW (U _));grind
def Ala(ae:0<k)(m:TI y k q N LA LB t h 0 0){c x a z v}(Z:x.g=k/\x.act=.send c s)(U:a.g=0/\a.act=.recv c s 0)(n:z.g=k/\z.act=.sendDone c s)(o:v.g=0/\v.act=.recvDone c s)(hs:iZ h.1<=iZ d.1)(M:c<iZ d.1):TI y k q N b f (t++#[x,a,z,v]) d 0 0:=by
 have K:∀e∈(#[x,a,z,v]:zq),e.4.touch? = zt/\(∀X,e.4≠.mark X)/\e.4.low d.1.size/\(e.g=0∨e.g=k):=λe T=>by simp at T;obtain rfl|rfl|rfl|rfl:=T;rw[Z.2];exact⟨iW,Ae,M,qx Z.1⟩;rw[U.2];exact⟨iW,Ae,M,zk U.1⟩;rw[n.2];exact⟨iW,Ae,M,qx n.1⟩;rw[o.2];exact⟨iW,Ae,M,zk o.1⟩
 have E:∀g,Deaf (t++#[x,a,z,v]) g=Deaf t g:=λg=>jl t g _ λe T=>⟨(K e T).2.1 .disable,(K e T).2.1 .enable⟩;have Q:(t++#[x,a,z,v])[t.size]?=je x:=Ae;have R:(t++#[x,a,z,v])[t.size+1]?=je a:=by rw[eL Aa];simp
 have V:(t++#[x,a,z,v])[t.size+2]?=je z:=by rw[eL Aa];simp
 have w:(t++#[x,a,z,v])[t.size+3]?=je v:=by rw[eL Aa];simp
 have l:∀g {e},e∈(#[x,a,z,v]:zq)->∀r,deafStep g r e=r:=λg e T r=>by have:=Ap0 t g (l:=[e]) (λD O=>by simp at O;subst O;exact(K _ T).2.1) r;simpa using this
 have F:∀g,(t++#[x,a,z,v]).deaf g t.size=Deaf t g:=λg=>deaf_old (aA _);have G:∀g,(t++#[x,a,z,v]).deaf g (t.size+1)=Deaf t g:=λg=>by rw[deaf_succ Q,l g Ae,F]
 have H:∀g,(t++#[x,a,z,v]).deaf g (t.size+2)=Deaf t g:=λg=>by rw[deaf_succ R,l g Ae,G]
 have Y:∀g,(t++#[x,a,z,v]).deaf g (t.size+3)=Deaf t g:=λg=>by rw[deaf_succ V,l g Ae,H]
 have I:∀i j,touchAt (t++#[x,a,z,v]) i=je j->touchAt t i=je j:=λi j B=>by obtain⟨D,O,S⟩:=touch_of B;obtain⟨_,a1⟩|⟨_,a6⟩:=getElem?_append_cases O;rwa[touchAt_of a1];rw[(K D a6).1]at S;cases S
 have a7:HappensBefore (t++#[x,a,z,v]) t.size (t.size+3):=.single (qx ⟨.handOver (c:=c) (k:=s) (by rw[act?_of Q,Z.2]) (by rw[act?_of w,o.2]),⟨k,by simp[xd,Q,aI,Z.1],by rw[F];exact m.6⟩,⟨0,by simp[xd,w,aI,o.1],by rw[Y];exact m.5⟩⟩);have A:∀{i g},t.g? i=je g->Knows t g i:=λ{i g} hg=>by obtain⟨D,O,a8⟩:=bA.1 hg;have:=knows_own O;rwa[a8]at this
 refine⟨λaa=>?_,λi j B L=>?_,λi j B L=>?_,Ry m.4 λe T=>(K e T).2.2.2.elim zk λp=>qx (zk p),(E 0).trans m.5,(E k).trans m.6,Tf m.7 hs λe T=>(K e T).2.2.1⟩;rintro⟨i,P,ab,⟨j,W,B,hb,ad⟩,J,u⟩;exact m.1 aa ⟨i,P,ab,⟨j,W,I i j B,I P W hb,ad⟩,λp=>J (hb_app _ p),λp=>u (hb_app _ p)⟩;obtain C|C|⟨C,_⟩:=m.2 i j (I i j B) L;exact zk (C.app _);exact qx (zk C);exact zk ⟨t.size+3,v,w,o.1,qx (((A C).hb_new (aA _) Q Z.1).trans a7)⟩;obtain C|C|⟨C,_⟩:=m.3 i j (I i j B) L;exact zk (C.app _);exact qx (zk C);exact zk ⟨t.size+2,z,V,n.1,qx (((A C).hb_new Aa R U.1).trans (.single (qx ⟨.room (c:=c) (k:=s) (cap:=0) (by rw[act?_of R,U.2]) (by rw[act?_of V,n.2];rfl),⟨0,by simp[xd,R,aI,U.1],by rw[G];exact m.5⟩,⟨k,by simp only[xd,V,aI,n.1],by rw[H];exact m.6⟩⟩)))⟩
end
structure Nt where
 Shun:Loc->Prop
 k:Nat
 Wg:Nat
 Ch:Nat
 Ro:Loc->Prop
structure Nt.Ok(C:Nt):Prop where
 hk:0<C.k
 wgS:∀l,Hm C.Wg l->¬C.Shun l
 chS:¬C.Shun (.obj C.Ch)
 ro:∀l,C.5 l->¬Hm C.Wg l/\l≠.obj C.Ch/\¬C.Shun l
def Nt.A(C:Nt)(KB:iH)(l:Loc):Prop:=¬KB l/\¬C.5 l/\¬Hm C.Wg l/\l≠.obj C.Ch/\¬C.Shun l
def Nt.B(C:Nt)(KB:iH)(l:Loc):Prop:=KB l/\¬C.5 l/\¬Hm C.Wg l/\l≠.obj C.Ch/\¬C.Shun l
abbrev Nt.LA(C:Nt)(KB:iH):qi->Loc->Bool->Prop:=λ_ l x=>C.A KB l∨(x=vy/\C.5 l)
abbrev Nt.LB(C:Nt)(KB:iH):qi->Loc->Bool->Prop:=λ_ l x=>C.B KB l∨(x=vy/\C.5 l)
abbrev Nt.TI(C:Nt)(KB:iH)(t:zq)(w:qi)(dA dB:Nat):Prop:=Pair.TI C.Shun C.k C.Wg C.Ch (C.LA KB) (C.LB KB) t w dA dB
section
variable {C:Nt} {b:iH} {a e:Nat}
def Nt.Ok.parts(O:C.Ok)(Q):GO C.Shun C.Wg C.Ch (C.LA Q) (C.LB Q):=by refine⟨λ_ l x y h P=>?_,λ_ l x h=>(h.elim (λh=>h.2.2) λh=>O.4 _ h.2),λ_ l x h=>(h.elim (λh=>h.2.2) λh=>O.4 _ h.2),λ_ _ _ _ _ h=>h,λ_ _ _ _ _ h=>h,O.2,O.3⟩;obtain h|⟨rfl,h⟩:=h<;>obtain P|⟨rfl,P⟩:=P;exact absurd P.1 h.1;exact absurd P h.2.1;exact absurd h P.2.1;exact⟨iW,iW⟩
def Ac2{B}{P:MemAct}{a}(h:P.touch? = je a)(K:P.low B):a.loc.low B:=by unfold MemAct.touch? at h;split at h;cases h;exact K;cases h;exact K;cases h;exact K;cases h
def MY(g:C.TI Q t h a e)(s:iZ h.1<=iZ d.1)(p:∀l,l.low h.1.size->(Q l↔b l)):C.TI b t d a e:=by (have k:∀i f,touchAt t i=je f->f.1.low h.1.size:=λi f j=>by have ⟨x,Z,B⟩:=touch_of j;exact Ac2 B (g.7 x (cN Z)));refine⟨g.1,λi f j L=>?_,λi f j L=>?_,g.4,g.5,g.6,λm T=>MemAct.low_mono s (g.7 m T)⟩;obtain c|c|⟨c,J⟩:=g.2 i f j L;exact zk c;exact qx (zk c);exact qx (qx ⟨c,J.imp (λx=>x.imp (λx=>⟨(p _ (k i f j)).1 x.1,x.2⟩) id) id⟩);obtain c|c|⟨c,J⟩:=g.3 i f j L;exact zk c;exact qx (zk c);exact qx (qx ⟨c,J.imp (λx=>x.imp (λx=>⟨λy=>x.1 ((p _ (k i f j)).2 y),x.2⟩) id) id⟩)
def Xw{d B e}(h:NQ d c B e){b}(D:(MemAct.ofEvent e).touch? = je b):d b.loc∨∃r,b.loc=.obj r/\c r/\b.kind=.atomic:=by have ⟨l,wr,Y⟩:=e;cases l with|cell a=>(have:b.1=.cell a:=by cases wr<;>cases Y<;>simp[MemAct.ofEvent,MemAct.touch?]at D<;>subst D<;>rfl);rw[this];exact zk h.1|obj r=>(have:b.1=.obj r:=by cases wr<;>cases Y<;>simp[MemAct.ofEvent,MemAct.touch?]at D<;>subst D<;>rfl);obtain C|⟨C,J,T⟩:=h.1;grind;refine qx ⟨r,this,C,?_⟩;subst J T;simp[MemAct.ofEvent,MemAct.touch?]at D;subst D;rfl|mark m=>(cases m<;>first|exact h.elim|(cases wr<;>cases Y<;>simp[MemAct.ofEvent,MemAct.touch?]at D))|_=>exact h.elim
def LD{b B e}(h:NQ b c B e):(MemAct.ofEvent e).low B:=by have ⟨l,wr,Y⟩:=e;cases l with|cell a=>cases wr<;>cases Y<;>exact h.2|obj r=>cases wr<;>cases Y<;>exact h.2|mark m=>(cases m<;>first|exact h.elim|(cases wr<;>cases Y<;>trivial))|_=>exact h.elim
def Xv{a B e}(h:NQ a c B e):e.loc≠.mark .disable/\e.loc≠.mark .enable:=by have ⟨l,wr,Y⟩:=e;cases l with|mark m=>(cases m<;>first|exact h.elim|simp)|_=>simp
def Aat{b B e}(h:NQ b c B e)(a):MemAct.ofEvent e≠.mark (.release a):=by have ⟨l,wr,Y⟩:=e;cases l with|cell a=>cases wr<;>cases Y<;>simp[MemAct.ofEvent]|obj r=>cases wr<;>cases Y<;>simp[MemAct.ofEvent]|mark m=>(cases m<;>first|exact h.elim|(cases wr<;>cases Y<;>simp[MemAct.ofEvent]))|_=>exact h.elim
def Aib(O:C.Ok)(g:C.TI Q t h a e)(s:iZ h.1<=iZ d.1)(N:∀c∈X,NQ (C.A Q) (· = C.Ch) d.1.size c)(u b):C.TI Q (t++MemOp.ofEvents 0 u b X) d a e:=by refine TI.appA (O.parts Q) O.1 (MY g s λ_ _=>Iff.rfl) (.refl _) (λf T=>Cq T) (λf T j D _=>?_) ?_ (λf T=>?_);exact Epz;rw[xr,o6 λc Z=>Xv (N c Z)];exact g.5;obtain⟨c,Z,rfl⟩:=xy T;exact LD (N c Z)
def Aic(O:C.Ok)(g:C.TI Q t h a e)(s:iZ h.1<=iZ d.1)(p:∀l,l.low h.1.size->(Q l↔b l))(N:∀c∈X,NQ (C.B b) (· = C.Ch) d.1.size c)(u m):C.TI b (t++MemOp.ofEvents C.k u m X) d a e:=by refine TI.appB (O.parts b) O.1 (MY g s p) (.refl _) (λf T=>Cq T) (λf T j D _=>?_) ?_ (λf T=>?_);exact Epz;rw[xr,o6 λc Z=>Xv (N c Z)];exact g.6;obtain⟨c,Z,rfl⟩:=xy T;exact LD (N c Z)
def Aia(O:C.Ok)(d:C.TI Q t h a e)(N:∀c∈X,∃b,c=⟨.cell b,vy,vy⟩/\C.5 (.cell b)/\b.block<iZ h.1)(u g):C.TI Q (t++MemOp.ofEvents 0 u g X) h a e/\C.TI Q (t++MemOp.ofEvents C.k u g X) h a e:=by have i:∀c∈X,c.1≠.mark .disable/\c.1≠.mark .enable:=λc Z=>Aj;constructor;refine TI.appA (O.parts Q) O.1 d (.refl _) (λf T=>Cq T) (λf T j D _=>?_) ?_ (λf T=>?_);obtain⟨c,Z,rfl⟩:=xy T;obtain⟨b,rfl,k,_⟩:=N c Z;simp[MemAct.ofEvent,MemAct.touch?]at D;grind;rw[xr,o6 i];exact d.5;exact X5d;refine TI.appB (O.parts Q) O.1 d (.refl _) (λf T=>Cq T) (λf T j D _=>?_) ?_ (λf T=>?_);obtain⟨c,Z,rfl⟩:=xy T;obtain⟨b,rfl,k,_⟩:=N c Z;simp[MemAct.ofEvent,MemAct.touch?]at D;subst D;exact zk (qx ⟨iW,k⟩);rw[xr,o6 i];exact d.6;exact X5d
end
def Nx(r:Nat):Loc->Prop
 |.cell a=>a.block=r
 |.obj i=>i=r
 |_=>False
def ES(n g x):kt (Bt n g) (A2 n x)=Bt n (kt g x):=by unfold kt Bt;rw[show(Bp n g.1).finish _=Bp n _ from Nc _ _]
def Xd(n g):kt (Bt n g) re=Bt n (kt g re):=by unfold kt Bt;rw[show(Bp n g.1).finish re=Bp n _ from P4 _]
def Ren.ins(n k r W)(h:∀i<k,sh n i<W)(hr:r<W)(hn:∀i<k,sh n i≠r):O:=⟨λi=>if i<k then n.f i else if i=k then r else W+(i - k - 1),λ{i j} e=>by have a:=h i;have b:=h j;have c:=hn i;have d:=hn j;rw[sh]at a b c d;by_cases h1:i<k;by_cases h2:j<k;rw[aL h1,aL h2]at e;exact n.2 e;rw[aL h1,aO h2]at e;have:=a h1;have:=c h1;split at e<;>omega;by_cases h2:j<k;rw[aO h1,aL h2]at e;have:=b h2;have:=d h2;split at e<;>omega;rw[aO h1,aO h2]at e;split at e<;>split at e<;>omega⟩
section
variable {J Own:iH}
def Iz:(Bb Bs v).1.size=iZ v.1:=by rw[Bb];simp
def RP(k:RowsIn Bs v)(h:Jf (Bb Bs v) l):Jf v l/\∀i,Bs i->¬Nx i l:=by cases l with|cell a=>have ⟨x,Z⟩:=h;(have z:¬Bs a.1:=λD=>by rw[AQ (Gs k) D]at Z;cases Z);refine⟨⟨x,?_⟩,λi V e=>z (by have E:=e;rwa[E])⟩;have:=Vp (w:=v) (u:=Bb Bs v) z;rw[Jq k]at this;exact this.trans Z|obj r=>have ⟨o,O,M⟩:=h;(have z:¬Bs r:=λD=>by have ⟨c,e,b,Y⟩:=k r D;rw[B6,Y,aI,aL D]at O;obtain rfl:=aC O;exact M _ _ _ iW);refine⟨⟨o,?_,M⟩,λi V e=>z (by rwa[e])⟩;rw[B6]at O;grind|_=>exact h.elim
def Aa9(h:¬Nx i l):¬Nx (sh n i) (Ha n l):=by cases l with|cell a=>exact λe=>h (Hk (n:=n) e)|obj r=>exact λe=>h (Hk (n:=n) e)|_=>exact id
def Dp.hide(a:Dp P n J Own m v h)(k:RowsIn Bs v)(G:Bt (.up v.1.size) g'=g')(H:∀l,Own l->(∀i,Bs i->¬Nx (sh n i) l)->Own' l):Dp P n J Own' g' (Bb Bs v) h:=by refine⟨λt=>Sm.hide (Gs k) (by rw[Jq k];exact a.1 t),a.2,by rw[Iz];exact a.3,⟨λi o O=>?_,by rwa[Iz]⟩,λl K b=>?_⟩;rw[Iz];rw[B6]at O;(cases Y:v.1[i]? with|none=>grind|some p=>by_cases D:Bs i;have ⟨d,e,f,M⟩:=k i D;rw[Y]at M;obtain rfl:=aC M;rw[Y,aI,aL D]at O;obtain rfl:=aC O;exact zk (by simp[Uk,Dr]);rw[Y,aI,aO D]at O;obtain rfl:=aC O;exact a.4.1 i p Y);have ⟨C,c⟩:=RP k K;exact H _ (a.5 l C b) λi V=>Aa9 (c i V)
def Dp.give(a:Dp P n J Own m v h){o s}(Y:h.1[r]?=je s)(k:s=o∨∃B e A,o=pf #[] e A/\s=pf B e A)(z:∀i<iZ v.1,sh n i≠r)(O:∀f,Dr f o=o)(G:Bt (.up (iZ v.1+1)) g'=g')(H:∀l,Own l->Own' l)(g:∀l,Nx r l->Own' l):∃b,Dp P b J Own' g' { v with heap:=v.1.push o } h/\sh b v.1.size=r/\∀i<iZ v.1,sh b i=sh n i:=by
 let b:Ren:=n.ins v.1.size r h.1.size (a.1 0).2 ((aJ.1 Y).1) z;have S:∀i<iZ v.1,sh b i=sh n i:=λi V=>aL V;have L:sh b v.1.size=r:=by show(if iZ v.1<iZ v.1 then _ else if iZ v.1=iZ v.1 then r else _)=r;simp
 have F:∀i,iZ v.1<i->sh b i=iZ h.1+(i - iZ v.1 - 1):=λi V=>by show(if i<iZ v.1 then _ else if i=iZ v.1 then r else _)=_;grind
 have I:∀i p,({ v with heap:=v.1.push o }:qi).1[i]?=je p->(i=iZ v.1/\p=o)∨(i<iZ v.1/\v.1[i]?=je p):=λi p Q=>by have X:(v.1.push o)[i]?=je p:=Q;grind
 have u:({ v with heap:=v.1.push o }:qi).1.size=iZ v.1+1:=Ae;have q:=a.1 0;refine⟨b,⟨λt=>⟨λj _=>?_,λi V=>?_,λi V=>?_,λi p Q=>?_,q.5,q.6,q.7,q.8⟩,λi V=>?_,u▸Nat.le_succ_of_le a.3,⟨λi p Q=>?_,by rwa[u]⟩,λl K R=>?_⟩,L,S⟩;rw[u,F _ Aa];omega;rw[u]at V;grind;rw[u]at V;rw[F i Aa];omega;obtain⟨rfl,rfl⟩|⟨V,X⟩:=I i p Q;rw[L];obtain rfl|k:=k;exact⟨_,Y,zk (O _).symm⟩;exact⟨s,Y,qx (qx (qx (let⟨B,e,A,C,y⟩:=k;⟨B,e,A,C,y⟩)))⟩;rw[S i V];obtain⟨s,C,y⟩:=q.4 i p X;exact⟨s,C,LikeO.ag (XK λi V=>(S i V).symm) (a.4.1 i p X) y⟩;exact Geh;rw[u];obtain⟨rfl,rfl⟩|⟨V,X⟩:=I i p Q;exact zk (O _).symm;exact LikeO.ag (ZJ (dV _)) (a.4.1 i p X) (a.4.1 i p X);have D:Jf v l∨Nx v.1.size l:=by cases l with|cell c=>obtain⟨x,Z⟩:=K;by_cases d:c.1=iZ v.1;exact qx d;left;refine⟨x,?_⟩;rw[yg]at Z⊢;rwa[show({ v with heap:=v.1.push o }:qi).1[c.1]?=v.1[c.1]? from by rw[show({ v with heap:=v.1.push o }:qi).1=v.1.push o from rfl,Xy,aO d]]at Z|obj i=>obtain⟨p,Q,M⟩:=K;obtain⟨rfl,_⟩|⟨_,X⟩:=I i p Q;exact qx iW;exact zk ⟨p,X,M⟩|_=>exact K.elim
 obtain D|D:=D;have:Ha b l=Ha n l:=by cases l with|cell c=>obtain⟨x,Z⟩:=D;simp[Ha,Ew,S _ (Lb Z)]|obj i=>obtain⟨p,Q,_⟩:=D;simp[Ha,S _ (aJ.1 Q).1]|_=>exact D.elim
 rw[this];exact H _ (a.5 l D R);apply g _;cases l with|cell c=>show sh b c.1=r;rwa[show c.1=iZ v.1 from D]|obj i=>show sh b i=r;rwa[show i=iZ v.1 from D]|_=>exact D.elim
end
structure Nt.RoR(C:Nt)(w w':qi):Prop where
 size:iZ w.1<=iZ w'.1
 cell:∀a:Addr,C.5 (.cell a)->a.block<iZ w.1->w'.cell? a=w.cell? a
 row:∀(r:Nat)(c:iJ)e(fz:Nat×Nat),w.1[r]?=je (pf c e fz)->∃c',w'.1[r]?=je (pf c' e fz)/\c'.size=c.size
 obj:∀r(o:Obj),C.5 (.obj r)->w.1[r]?=je o->Cn o->w'.1[r]?=je o
def Nt.RoR.refl{C:Nt}(w):C.RoR w w:=⟨aA _,λ_ _ _=>rfl,λ_ c _ _ h=>⟨c,h,iW⟩,λ_ _ _ h _=>h⟩
def Nt.RoR.trans{C:Nt}{a b c}(h:C.RoR a b)(P:C.RoR b c):C.RoR a c:=⟨aD h.1 P.1,λx Z K=>(P.2 x Z (aB K h.1)).trans (h.2 x Z K),λr x e d Y=>by have ⟨N,S,l⟩:=h.3 r x e d Y;have ⟨H,L,R⟩:=P.3 r N e d S;grind,λr o Y O z=>P.4 r o Y (h.4 r o Y O z) z⟩
def Nt.RoR.at{C:Nt}{a b}(h:C.RoR a b)(d):C.RoR a (b.at d):=⟨h.size,h.cell,h.row,h.obj⟩
def VZ{C:Nt}(O:C.Ok){B}(f:Dd w B L)(N:∀e∈L,Hm C.Wg e.loc∨e.loc=.obj C.Ch):C.RoR w B:=by refine⟨f.1,λa d K=>f.2 a K λe Z _ D=>?_,f.4,λr o Y b z=>f.3 r o b z λe Z _ D=>?_⟩;obtain h|h:=N e Z;rw[D]at h;exact(O.4 _ d).1 h;grind;obtain h|h:=N e Z;have ⟨a,S,_⟩:=h;grind;rw[D]at h;exact(O.4 _ Y).2.1 h
structure Nu where
 L:Nt
 P:jd
 ty:uy
 ChL:Nat
 WgL:Nat
 ChB:Nat
 WgB:Nat
 NA:Nat
 N0:Nat
 fA:Nat->Nat
 fB:Nat->Nat
 w0:qi
 low:Nat
 JA:Loc->Prop
 JB:Loc->Prop
 msgT:uy
 msgV:Nat->Array p8->p8
 FinA:gy->qi->Prop
 FinB:(Nat->Prop)->gy->qi->Prop
def Nu.msgO(D:Nu)(m:iJ):Obj:=pf m D.16 (0,0)
structure Nu.Ok(D:Nu):Prop where
 lot:D.L.Ok
 neq:D.L.Wg≠D.L.Ch
 wgLow:D.L.Wg<D.low
 chLow:D.L.Ch<D.low
 shLow:∀l,D.L.Shun l->Qs D.low l
 roLow:∀l,D.L.5 l->Qs D.low l
 jb:∀i j,D.JB (.cell (iR i j))->i<D.9
 ja:D.JA (.obj D.4)
 jaO:∀r,D.JA (.obj r)->r=D.4
 jbO:∀r,D.JB (.obj r)->r=D.6
 msg:∀n i m,A2 n (D.17 i m)=D.17 (sh n i) m
structure Nu.AtRecv(D:Nu)(z)(g:gy):Prop where
 run:g.status=.running
 comm:∀n(w:qi),n.Fix D.P.globals.size->stepG D.P jz (Bt n g) w=.comm (core (Bt n g)) #[rcase (sh n D.4) z] jz (.recv jz) w #[]
structure Nu.AtSend(D:Nu)(i)(m:iJ)(z)(g:gy):Prop where
 run:g.status=.running
 ints:m.map (A2 .one)=m/\∀n,m.map (A2 n)=m
 comm:∀n(w:qi),n.Fix D.P.globals.size->stepG D.P vy (Bt n g) w=.comm (core (Bt n g)) #[scase (sh n D.6) (D.17 (sh n i) m) z] jz .send w #[]
def ScA(D:Nu):List (Array p8)->gy->qi->Prop
 |[],g,v=>(∃z,D.AtRecv z g)/\D.18 g v
 |m::ms,g,v=>(∃z,D.AtRecv z g)/\EV D.P jz D.JA (ScA D ms) (kt (core g) (gq #[D.17 v.1.size m,o0 jz])) { v with heap:=v.1.push (D.msgO m) }
def ScB(D:Nu):List (Array p8)->(Nat->Prop)->gy->qi->Prop
 |[],S,g,v=>g.status=.running/\D.19 S g v
 |m::ms,S,g,v=>∃i z,D.AtSend i m z g/\(D.9<=i/\¬S i)/\v.1[i]?=je (D.msgO m)/\EV D.P vy D.JB (ScB D ms λj=>S j∨j=i) (kt (core g) re) (Bb (· = i) v)
structure Gb(D:Nu)(KB:iH)(S:iG)(n g v n' g')(v' w:qi):Prop where
 lowW:D.low<=iZ w.1
 kb:∀l,KB l->Qs w.1.size l
 sa:Dp D.P n D.JA (D.L.A KB) g v w
 sb:Dp D.P n' D.JB (D.L.B KB) g' v' w
 ca:D.4<iZ v.1/\sh n D.4=D.L.Ch
 cb:D.6<iZ v'.1/\sh n' D.6=D.L.Ch
 ga:D.5<iZ v.1/\sh n D.5=D.L.Wg
 gb:D.7<iZ v'.1/\sh n' D.7=D.L.Wg
 hN:D.9<=iZ v'.1
 same:D.8<=iZ v.1/\(∀i<D.8,sh n i=D.fA i)/\(∀i<D.9,sh n' i=D.fB i)/\D.L.RoR D.w0 w
 disj:∀i j,i<iZ v.1->D.9<=j->j<iZ v'.1->¬S j->sh n i≠sh n' j
 new:∀j,D.9<=j->j<iZ v'.1->D.low<=sh n' j
structure Gh(D KB ms S TA TB n g v n' g' v' w t):Prop extends Gb D KB S n g v n' g' v' w where
 fa:FwT D.P jz D.JA (ScA D ms) TA g v
 fb:FwT D.P vy D.JB (ScB D ms S) TB g' v'
 ti:D.L.TI KB t w 0 0
 ch:∃s tm,w.1[D.L.Ch]?=je (.chan 0 #[] vy s s tm)
 wg:Ev D.ty D.L.Wg w KK 0
section
variable {D:Nu} {c:O}
def Q8(n g):core (Bt n g)=Bt n (core g):=iW
def ZK{m}(h:M<=m)(G:Bt (.up M) g=g):Bt (.up m) g=g:=by rw[←Wt (ZJ h) G,G]
def Pc{B G}(h:B<=G)(K:Qs B l):Qs G l:=by cases l with|cell a=>exact aB K h|obj r=>exact aB K h|_=>exact K
def E2{B G}(h:B<=G){l}(K:Qs B l)(R:FK G l):False:=by cases l with|cell a=>have:a.1<B:=K;have:G<=a.1:=R;omega|obj r=>have:r<B:=K;have:G<=r:=R;omega|_=>exact K
def PI{B}(h:q<B)(K:Hm q l):Qs B l:=by obtain⟨a,rfl,e⟩:=K;show a.1<B;omega
def DS(O:D.Ok){B}(k:D.low<=B)(K:FK B l):¬D.L.5 l/\¬Hm D.L.Wg l/\l≠.obj D.L.Ch/\¬D.L.Shun l:=⟨λh=>E2 k (O.6 l h) K,λh=>E2 k (PI O.3 h) K,λh=>E2 k (show Qs D.13 l by rw[h];exact O.4) K,λh=>E2 k (O.5 l h) K⟩
def IB{B}(h:B<=r)(K:Nx r l):FK B l:=by cases l with|cell a=>show B<=a.1;have:a.1=r:=K;omega|obj i=>show B<=i;have:i=r:=K;omega|_=>exact K
def Gb.at(a:Gb D Q S n g v c g' U h)(d):Gb D Q S n g (v.at d) c g' (U.at d) (h.at d):={ a with sa:=a.sa.at d,sb:=a.4.at d,same:=⟨a.same.1,a.same.2.1,a.same.2.2.1,a.same.2.2.2.at d⟩ }
def Gb.change(O:D.Ok)(a:Gb D Q S n g v c g' U h)(f:Dd h d L)(N:∀e∈L,Hm D.L.Wg e.loc∨e.loc=.obj D.L.Ch):∃u j,Gb D Q S u g (v.at d.drawn) j g' (U.at d.drawn) d/\Bt u g=Bt n g/\Bt j g'=Bt c g'/\(∀i<iZ v.1,sh u i=sh n i)/\∀i<iZ U.1,sh j i=sh c i:=by obtain⟨u,y,G,W⟩:=a.3.other (Own':=D.L.A Q) f (λe Z _ _ m=>(N e Z).elim m.2.2.1 m.2.2.2.1) λ_ _ a=>a;obtain⟨j,p,q,b⟩:=a.4.other (Own':=D.L.B Q) f (λe Z _ _ m=>(N e Z).elim m.2.2.1 m.2.2.2.1) λ_ _ a=>a;exact⟨u,j,⟨aD a.1 f.1,λl K=>Pc f.1 (a.2 l K),y,p,⟨a.5.1,W _ a.5.1▸a.5.2⟩,⟨a.6.1,b _ a.6.1▸a.6.2⟩,⟨a.7.1,W _ a.7.1▸a.7.2⟩,⟨a.8.1,b _ a.8.1▸a.8.2⟩,a.9,⟨a.10.1,λi V=>W i (aB V a.10.1)▸a.10.2.1 i V,λi V=>b i (aB V a.9)▸a.10.2.2.1 i V,a.10.2.2.2.trans (VZ O.1 f N)⟩,λi k V o P H=>W i V▸b k P▸a.11 i k V o P H,λk o P=>b k P▸a.12 k o P⟩,G,q,W,b⟩
theorem Gh.meet(O:D.Ok){m:iJ}(o:Gh D Q (m :: Z) S .leaf .leaf n g v c g' U h t){d:Bool}(M:h.heap[D.L.Ch]? = je (.chan 0 #[] vy s s d)){e:p8}(I:D.AtSend i m e g')(y:D.N0<=i/\¬S i)(P:U.heap[i]? = je (D.msgO m))(ab:EV D.P vy D.JB (ScB D Z λj=>S j∨j=i) (kt (core g') re) (Bb (· = i) U)){a f k b:MemOp}(h1:a.g=D.L.k/\a.act=.send D.L.Ch s)(J:f.g=0/\f.act=.recv D.L.Ch s 0)(ad:k.g=D.L.k/\k.act=.sendDone D.L.Ch s)(h4:b.g=0/\b.act=.recvDone D.L.Ch s) :
  ∃L E F z G u2 R T ae,Gh D L Z (λj=>S j∨j=i) E F z G u2 R T ae (h.setChan D.L.Ch 0 #[] vy (s+1) (s+1) d) (t++#[a,f,k,b]) /\
   kt (core (Bt n g)) (gq #[D.msgV (sh c i) m,o0 jz])=Bt z G/\kt (core (Bt c g')) re=Bt R T:=by
 have X:i<U.1.size:=(aJ.1 P).1;have Y:=Pd M;have af:∀j,j≠D.L.4->(h.setChan D.L.4 0 #[] vy (s+1) (s+1) d).1[j]? = h.1[j]?:=λj p=>Yi p;have aq:(h.setChan D.L.4 0 #[] vy (s+1) (s+1) d).1[D.L.4]? = je (.chan 0 #[] vy (s+1) (s+1) d):=QS Y;have C:(h.setChan D.L.4 0 #[] vy (s+1) (s+1) d).1.size=h.1.size:=by simp[World.setChan]
 have fr:Dd h (h.setChan D.L.4 0 #[] vy (s+1) (s+1) d) #[⟨.obj D.L.4,jz,jz⟩]:=Mh h M (λ_ _ _ r=>by cases r) (.chan 0 #[] vy (s+1) (s+1) d) (λ_ _ _ r=>by cases r) jz rfl;obtain⟨nA,nB,q,eA,eB,ah,ai⟩:=o.1.change O fr λr he=>by simp at he;subst he;exact qx rfl
 generalize hW:h.setChan D.L.4 0 #[] vy (s+1) (s+1) d=W at *;have dA:W.3=v.3:=hW▸o.sa.drawn
 have dB:W.3=U.3:=hW▸o.sb.drawn
 have q:Gb D Q S nA g v nB g' U W:=by have:=q;rwa[show v.at W.3=v by rw[dA];rfl,show U.at W.3=U by rw[dB];rfl]at this
 have a1:=q.4;obtain⟨o',hr,au⟩:=(a1.1 0).4 i _ P;have ak:o'=D.msgO m∨∃B r fz,D.msgO m=pf #[] r fz/\o'=pf B r fz:=by obtain rfl|⟨az,B,r,fz,N,H,V,x4⟩|⟨_,x,_⟩|⟨B,r,fz,N,H⟩:=au;left;show Obj.cells (m.map (A2 nB)) _ _=_;rw[I.2.2 nB];rfl;left;rw[Nu.msgO]at N;injection N with y1 y2 y3;subst y1 y2 y3;rw[H,Nu.msgO];congr 1;refine bZ λj=>?_;rw[x4 j λp=>by have:=O.7 _ _ p;have:=y.1;omega,←aM,I.2.2 nB];exact absurd rfl (x _ _ _);exact qx ⟨B,r,fz,N,H⟩
 let L:Loc->Prop:=λl=>Q l/\¬Nx (sh nB i) l;obtain⟨⟨za,b5⟩,al⟩:=o.2.2 v.3;have ar:Bt (.up (v.1.size+1)) (kt (core g) (gq #[D.17 v.1.size m,o0 jz]))=kt (core g) (gq #[D.17 v.1.size m,o0 jz]):=by (have e0:Bt (.up (v.1.size+1)) (core g)=core g:=by rw[←Q8,ZK (dV _) o.sa.4.2]);(have e1:A2 (.up (v.1.size+1)) (gq #[D.17 v.1.size m,o0 jz])=gq #[D.17 v.1.size m,o0 jz]:=by simp[A2,O.11,I7 (gR v.1.size)]);rw[←ES,e0,e1]
 obtain⟨z,am,er,A⟩:=q.3.give (Own':=D.L.A L) hr ak (λj p=>q.11 j i p y.1 X y.2) (λa6=>by show Obj.cells (m.map (A2 a6)) _ _=_;rw[I.2.2 a6];rfl) ar (λl K=>⟨λx=>K.1 x.1,K.2⟩) λl K=>⟨λx=>x.2 K,DS O (aA _) (IB (q.12 i y.1 X) K)⟩;have as:Bt (.up U.1.size) (kt (core g') re)=kt (core g') re:=by rw[←Xd,←Q8,o.sb.wf.gor]
 obtain⟨E,ao⟩:=al (U9 (v:=v) o.fa.1 trivial);obtain⟨F,ap⟩:=ab λj b6 u=>by rw[B6]at u;cases p:U.heap[j]? with| none=>rw[p]at u;cases u| some a7=>have a8:=o.fb.1 j a7 p;rw[p,aI]at u;obtain rfl:=aC u;split;(cases a7 <;> first|exact a8|exact trivial);exact a8
 refine⟨L,E,F,z,_,_,nB,_,_,⟨⟨q.lowW,λl K=>q.kb l K.1,am,(a1.hide (Bs:=(· = i)) (g':=kt (core g') re) (Own':=D.L.B L) (λj p=>by subst p;exact⟨_,_,_,P⟩) as λl K av=>⟨⟨K.1,av i rfl⟩,K.2⟩),⟨by simp;have:=o.ca.1;omega,A _ o.ca.1▸q.ca.2⟩,⟨by rw[Iz];exact o.cb.1,q.cb.2⟩,⟨by simp;have:=o.ga.1;omega,A _ o.ga.1▸q.ga.2⟩,⟨by rw[Iz];exact o.gb.1,q.gb.2⟩,by rw[Iz];exact o.hN,⟨by simp;have:=o.same.1;omega,λj p=>A j (aB p o.same.1)▸q.same.2.1 j p,q.same.2.2⟩,λw aw ha hc aj hS=>?_,λj p ax=>q.new j p (by rwa[Iz]at ax)⟩,ao,ap,(Ala O.lot.hk o.ti h1 J ad h4 (by rw[C];exact aA _) (by rw[C];exact Y)),⟨s+1,d,aq⟩,?_⟩,?_,?_⟩;rw[Iz]at aj;have b7:w<v.heap.size+1:=by simpa using ha
 rcases gT w v.heap.size with x|x;rw[A w x];exact q.disj w aw x hc aj λay=>hS (zk ay);obtain rfl:w=v.heap.size:=Aa;rw[er];exact λr=>hS (qx (Hk r).symm);have r:W.heap[D.L.Wg]? = h.heap[D.L.Wg]?:=af _ O.neq;have aa:=o.wg;unfold Ev at aa⊢;exact r.trans aa;rw[←ES];congr 1;rw[Q8,←Wt (g:=core g) (XK (M:=v.heap.size) λj p=>((ah j p).symm.trans (A j p).symm)) (by rw[←Q8,o.sa.wf.gor])];simp[A2,O.msg,er];rw[ai i X];rw[←Xd,←Q8,eB]
end
def Nt.DRo(C:Nt)(w w':qi)(es:Array Event):Prop:=w'=w/\∀e∈es,∃a,e=⟨.cell a,vy,vy⟩/\C.5 (.cell a)/\a.block<iZ w.1
def P0{b B e}(h:NQ b c B e)(W:e.write=jz):(b e.loc/\Qs B e.loc)∨∃m,e.loc=.mark m:=by have ⟨l,wr,Y⟩:=e;cases l with|cell a=>exact zk h|obj r=>obtain C|⟨_,J,_⟩:=h.1;exact zk ⟨C,h.2⟩;grind|mark m=>exact qx ⟨m,iW⟩|_=>exact h.elim
def Aev{d b B e}(h:NQ d c B e)(j:∀r,c r->b r):NQ d b B e:=by have ⟨l,wr,Y⟩:=e;cases l with|cell a=>exact h|obj r=>exact⟨h.1.imp id λx=>⟨j _ x.1,x.2⟩,h.2⟩|mark m=>exact h|_=>exact h.elim
def Aew{b a B e}(h:NQ b c B e)(H:∀l,b l->Qs B l->a l):NQ a c B e:=by have ⟨d,wr,Y⟩:=e;cases d with|cell f=>exact⟨H _ h.1 h.2,h.2⟩|obj r=>exact⟨h.1.imp (λx=>H _ x h.2) id,h.2⟩|mark m=>exact h|_=>exact h.elim
section
def Aa2(f:Dd h d X){c:iJ}{e a}(b:h.1[r]?=je (pf c e a))(z:∀x∈X,x.write=jz->∀j,x.loc≠.cell (iR r j)):d.1[r]?=je (pf c e a):=by have ⟨B,C,J⟩:=f.4 _ _ _ _ b;rw[C];congr 2;refine bZ λj=>?_;rw[←Cm C j,←Cm b j];exact f.2 (iR r j) (aJ.1 b).1 λx Z W=>z x Z W j
end
section
variable {D:Nu} {c:O}
def stays(O:D.Ok){b c B}(f:Dd h d L)(N:∀e∈L,NQ b c B e)(H:∀l,b l->¬D.L.5 l/\¬Hm D.L.Wg l/\l≠.obj D.L.Ch/\¬D.L.Shun l):D.L.RoR h d/\(∀{i sm},Ev D.ty D.L.Wg h i sm->Ev D.ty D.L.Wg d i sm)/\∀{o},h.1[D.L.Ch]?=je o->Cn o->d.1[D.L.Ch]?=je o:=by refine⟨⟨f.1,λj k K=>f.2 j K λe Z W K=>?_,f.4,λr o Y m M=>f.3 r o m M λe Z W K=>?_⟩,λ{i sm} G=>?_,λ{o} m M=>f.3 _ _ m M λe Z W K=>?_⟩;obtain⟨a,_⟩|⟨g,a⟩:=P0 (N e Z) W;grind;grind;obtain⟨a,_⟩|⟨g,a⟩:=P0 (N e Z) W;grind;grind;rw[Ev,NF]at G⊢;refine Aa2 f G λe Z W n K=>?_;obtain⟨a,_⟩|⟨g,a⟩:=P0 (N e Z) W;rw[K]at a;exact(H _ a).2.1 ⟨_,iW,iW⟩;grind;obtain⟨a,_⟩|⟨g,a⟩:=P0 (N e Z) W;rw[K]at a;exact(H _ a).2.2.1 iW;rw[K]at a;cases a
def Gb.stepA(O:D.Ok)(b:Gb D Q S n m v c R U h){o G}(E:H0 D.P jz D.JA m v o G):∃d X g,stepG D.P jz (Bt n m) h=.go (Bt n o) d X/\Gb D Q S n o G g R (U.at d.drawn) d/\Bt g R=Bt c R/\D.L.RoR h d/\(∀{i sm},Ev D.ty D.L.Wg h i sm->Ev D.ty D.L.Wg d i sm)/\(∀{o},h.1[D.L.Ch]?=je o->Cn o->d.1[D.L.Ch]?=je o)/\(∀{t} {a} (fn y),D.L.TI Q t h 0 a->D.L.TI Q (t++MemOp.ofEvents 0 fn y X) d 0 a)/\∃L:Array Event,(∀e∈L,NQ (D.L.A Q) (· = D.L.Ch) d.1.size e)/\∀e∈X,e∈L:=by obtain⟨d,X,L,C,J,T,q,z⟩:=b.3.step E (Own':=D.L.A Q) (λ_ _ b=>b) λl K=>⟨λs=>E2 (aA _) (b.2 l s) K,DS O b.1 K⟩;(replace q:∀e∈L,NQ (D.L.A Q) (· = D.L.4) d.1.size e:=λe N=>Aev (q e N) λx⟨r,Y,k⟩=>k▸O.9 r Y▸b.5.2);obtain⟨g,w,A,f⟩:=b.4.other (Own':=D.L.B Q) T (λe N W F H=>by obtain⟨x,_⟩|⟨a7,x⟩:=P0 (q e N) W;exact x.1 H.1;rwa[x]at F) λ_ _ b=>b;obtain⟨B,I,M⟩:=stays O T q λl K=>K.2;obtain⟨e0,p,_⟩:=E.3;refine⟨d,X,g,C,⟨aD b.1 T.1,λl K=>Pc T.1 (b.2 l K),J,w,⟨aB b.5.1 p.1,b.5.2⟩,⟨b.6.1,f _ b.6.1▸b.6.2⟩,⟨aB b.7.1 p.1,b.7.2⟩,⟨b.8.1,f _ b.8.1▸b.8.2⟩,b.9,⟨aD b.10.1 p.1,b.10.2.1,λi V=>f i (aB V b.9)▸b.10.2.2.1 i V,b.10.2.2.2.trans B⟩,λi j V u P Z=>?_,λj u P=>f j P▸b.12 j u P⟩,A,B,I,M,λ_ _ a1=>Aib O.1 a1 T.1 (λe N=>q e (z e N)) _ _,L,q,z⟩;rw[f j P];by_cases a6:i<iZ v.1;exact b.11 i j a6 u P Z;have:=(b.3.1 0).3 i Aa;have:=(b.4.1 0).2 j P;omega
def Gh.stepA(O:D.Ok){f:Nat->Tree}(a:Gh D Q Z S (.node f) j n m v c R U h t)(u y):∃d X o G b,stepG D.P jz (Bt n m) h=.go (Bt n o) d X/\Gh D Q Z S (f v.drawn) j n o G b R (U.at d.drawn) d (t++MemOp.ofEvents 0 u y X)/\Bt b R=Bt c R/\D.L.RoR h d:=by obtain⟨l,A,I⟩:=a.2;obtain⟨o,G,E,F⟩:=I v.3;obtain⟨d,X,b,C,J,e,B,g,V,T,_⟩:=a.1.stepA O E;obtain⟨s,i,M⟩:=a.5;exact⟨d,X,o,G,b,C,⟨J,F,a.3.at _,T _ _ a.4,⟨s,i,V M λ_ _ _ k=>by cases k⟩,g a.6⟩,e,B⟩
theorem Gh.stepB(O:D.Ok){f:Nat->Tree}(a:Gh D Q Z S E (.node f) n m v c R U h t)(I:mf)(M:String) :
  ∃d X L o G b,stepG D.P vy (Bt c R) h=.go (Bt c o) d X/\Gh D L Z S E (f U.drawn) b m (v.at d.drawn) c o G d (t++MemOp.ofEvents D.L.k I M X)/\Bt b m=Bt n m/\D.L.RoR h d:=by obtain⟨hp,aj,P⟩:=a.3;obtain⟨o,G,g,a1⟩:=P U.3;have g:H0 D.P vy D.JB R U o G:=g;obtain⟨d,X,y,C,J,T,q,a6⟩:=a.sb.step g (Own':=D.L.B λl=>Q l∨FK h.1.size l) (λ_ _ a=>⟨zk a.1,a.2⟩) λl K=>⟨qx K,DS O a.lowW K⟩;(replace q:∀e∈y,NQ (D.L.B λl=>Q l∨FK h.1.size l) (· = D.L.4) d.1.size e:=λe N=>Aev (q e N) λx⟨r,Y,k⟩=>k▸O.10 r Y▸a.cb.2);let L:Loc->Prop:=λl=>Q l∨(FK h.1.size l/\Qs d.1.size l);have z:∀e∈y,NQ (D.L.B L) (· = D.L.4) d.1.size e:=λe N=>Aew (q e N) λl K p=>⟨K.1.imp id λx=>⟨x,p⟩,K.2⟩;have a7:Dp D.P c D.JB (D.L.B L) o G d:=⟨J.1,J.2,J.3,J.4,λl K A=>by have:=J.5 l K A;exact⟨this.1.imp id λx=>⟨x,Oa (J.1 0) K⟩,this.2⟩⟩;obtain⟨b,hA,eA,W⟩:=a.sa.other (Own':=D.L.A L) T (λe N p F B=>by obtain⟨x,_⟩|⟨ak,x⟩:=P0 (q e N) p;exact x.1.elim B.1 λa8=>E2 (aA _) F a8;rwa[x]at F) λl K B=>⟨λx=>x.elim B.1 λx=>E2 (aA _) K x.1,B.2⟩;obtain⟨H,aa,s3⟩:=stays O T z λl K=>K.2;obtain⟨e0,u,_⟩:=g.3;obtain⟨s,ab,ad⟩:=a.5;have ae:∀l:Loc,l.low h.1.size->(Q l↔L l):=λl K=>⟨zk,λx=>x.elim id λx=>by cases l with| cell af=>exact(E2 (aA _) (l:=.cell af) K x.1).elim| obj r=>exact(E2 (aA _) (l:=.obj r) K x.1).elim| _=>exact x.1.elim⟩;refine⟨d,X,L,o,G,b,C,⟨⟨aD a.lowW T.1,λl K=>K.elim (λK=>Pc T.1 (a.kb l K)) λK=>K.2,hA,a7,⟨a.ca.1,W _ a.ca.1▸a.ca.2⟩,⟨aB a.cb.1 u.size,a.cb.2⟩,⟨a.ga.1,W _ a.ga.1▸a.ga.2⟩,⟨aB a.gb.1 u.size,a.gb.2⟩,aD a.hN u.size,⟨a.same.1,λi V=>W i (aB V a.same.1)▸a.same.2.1 i V,a.same.2.2.1,a.same.2.2.2.trans H⟩,λi j V A ah ai=>?_,λj A ah=>?_⟩,a.fa.at _,a1,Aic O.lot a.ti T.size ae (λe N=>z e (a6 e N)) _ _,⟨s,ab,s3 ad λ_ _ _ e=>M2⟩,aa a.wg⟩,eA,H⟩;have V:i<v.heap.size:=V;rw[W i V];by_cases w:j<U.heap.size;exact a.disj i j V A w ai;have:=(a.sb.sm 0).out j Aa;have:=(a.sa.sm 0).lt i V;omega;by_cases w:j<U.heap.size;exact a.new j A w;have:=(a.sb.sm 0).out j Aa;have:=a.lowW;omega
end
abbrev MuP:=Nat×(H×(H×(Nat×Nat)))
abbrev Tq:MuP->MuP->Prop:=Prod.Lex (· < ·) (Prod.Lex H.Sub (Prod.Lex H.Sub ZS))
def Afu:WellFounded Tq:=(Prod.lex ⟨_,Nat.lt_wfRel.wf⟩ (Prod.lex ⟨_,H.wf⟩ (Prod.lex ⟨_,H.wf⟩ ⟨_,Aj7⟩))).wf
def muO(k:Nat)(TA TB:H)(r:Nat):MuP:=(k+2,TA,TB,(0,r))
def YK{D}(h:r<D):Tq (muO k E j r) (muO k E j D):=.right _ (.right _ (.right _ (.right _ h)))
def Af0{x D}(h:Tq x (muO k E j r))(Y:r<=D):Tq x (muO k E j D):=by cases h with|left _ _ h=>exact .left _ _ h|right _ h=>refine .right _ ?_;grind
section
variable (D:Nu)
def Uf(T:H)(ra:Nat)(n:O)(g a:gy)(w:qi):Prop:=
 (ra=1/\a=Bt n g)∨(ra=0/\T=.leaf/\∃z,a=parked (core (Bt n g)) #[rcase D.L.Ch z] (.recv jz))∨∃m,ra=m+2/\gz D.P jz D.L.RoR D.L.DRo (λx _=>x=Bt n g/\g.status=.running) m a w
def Z1(ms:List (Array p8))(T:H)(rb:Nat)(n:O)(g b:gy)(w:qi):Prop:=
 (rb=1/\b=Bt n g)∨(rb=0/\T=.leaf/\ms≠[]/\∃x z,b=parked (core (Bt n g)) #[scase D.L.Ch x z] .send/\∃w,stepG D.P vy (Bt n g) w=.comm (core (Bt n g)) #[scase D.L.Ch x z] jz .send w #[])∨∃m,rb=m+2/\gz D.P vy D.L.RoR D.L.DRo (λx _=>x=Bt n g/\g.status=.running) m b w
def Open(ms:List (Array p8))(TA TB:H)(ra rb:Nat)(a b:gy)(w:qi)(t:zq):Prop:=
 ∃KB S n g v n' g' v',Gh D KB ms S TA TB n g v n' g' v' w t/\Uf D TA ra n g a w/\Z1 D ms TB rb n' g' b w/\¬(ra=0/\rb=0)
end
section
variable {D:Nu} {c:O}
def Gh.runA(h:Gh D Q Z S E j n g v c R U w t):g.status=.running:=by cases E with|node f=>exact h.2.2.1|leaf=>have:=h.2.2 v.3;cases Z with|nil=>have ⟨⟨z,N⟩,_⟩:=this;exact N.1|cons m Z=>have ⟨⟨z,N⟩,_⟩:=this;exact N.1
def Gh.runB(h:Gh D Q Z S E j n g v c R U w t):R.status=.running:=by cases j with|node f=>exact h.3.2.1|leaf=>have:=h.3.2 U.3;cases Z with|nil=>exact this.1|cons m Z=>have ⟨i,z,N,_⟩:=this;exact N.1
def Gh.atA(h:Gh D Q Z S .leaf j n g v c R U w t):∃z,D.AtRecv z g:=by have:=h.2.2 v.3;cases Z with|nil=>exact this.1|cons m Z=>exact this.1
def Uf.status(Y:g.status=.running)(h:Uf D T I n g a w):(a.status=.running/\I≠0)∨(a.status=.blocked/\I=0):=by obtain⟨rfl,rfl⟩|⟨rfl,_,z,rfl⟩|⟨m,rfl,G⟩:=h;exact zk ⟨Y,Aa⟩;exact qx ⟨iW,iW⟩;exact R1z
def Z1.status(Y:g.status=.running)(h:Z1 D Z T rb n g b w):(b.status=.running/\rb≠0)∨(b.status=.blocked/\rb=0):=by obtain⟨rfl,rfl⟩|⟨rfl,_,_,x,z,rfl,_⟩|⟨m,rfl,G⟩:=h;exact zk ⟨Y,Aa⟩;exact qx ⟨iW,iW⟩;exact R1z
def Uf.woken(Y:g.status=.running)(h:Uf D T I n g a w){P b}(M:d.1[D.L.Ch]?=je (.chan 0 #[] vy s r b))(x c):woken P x c d a=a:=by obtain⟨rfl,rfl⟩|⟨rfl,_,z,rfl⟩|h:=h;exact Ey (zk Y);exact woken_recv_open _ _ M;rcases Uf.status Y (qx (qx h):Uf D T I n g a w) with⟨C,_⟩|⟨_,C⟩;exact Ey (zk C);omega
def Z1.woken(Y:g.status=.running)(h:Z1 D Z T rb n g b w){P a}(M:d.1[D.L.Ch]?=je (.chan 0 #[] vy s r a))(x c):woken P x c d b=b:=by obtain⟨rfl,rfl⟩|⟨rfl,_,_,y,z,rfl,_⟩|h:=h;exact Ey (zk Y);exact woken_send_open _ _ M;rcases Z1.status Y (qx (qx h):Z1 D Z T rb n g b w) with⟨C,_⟩|⟨_,C⟩;exact Ey (zk C);omega
def Uf.keep(h:Uf D T I n g a w)(e:Bt u g=Bt n g)(Y:D.L.RoR w d):Uf D T I u g a d:=by rw[Uf];exact To5
def Z1.keep(h:Z1 D Z T rb n g b w)(e:Bt u g=Bt n g)(Y:D.L.RoR w d):Z1 D Z T rb u g b d:=by rw[Z1];exact To5
def Gh.at(h:Gh D Q Z S E j n g v c R U w t)(d):Gh D Q Z S E j n g (v.at d) c R (U.at d) (w.at d) t:=
 ⟨h.1.at d,h.2.at d,h.3.at d,MY h.ti (aA _) λ_ _=>Iff.rfl,h.ch,h.wg⟩
def Gh.ti'(h:Gh D Q Z S E j n g v c R U w t){a}(b:D.L.TI Q a w 0 0):={ h with ti:=b }
def Open.at(h:Open D Z E j I rb a b w t)(d):Open D Z E j I rb a b (w.at d) t:=by have ⟨Q,S,n,g,v,c,R,U,p,B,Y,nb⟩:=h;exact⟨Q,S,n,g,_,c,R,_,p.at d,B.keep iW ((Nt.RoR.refl _).at d),Y.keep iW ((Nt.RoR.refl _).at d),nb⟩
def Afl{a x l cs d c J s W}{w2 H e:qi}{G}(h:stepG P a x w=.comm b cs c s H X)(f:stepG P a x w=.comm l d J W e G):cs=d:=by grind
theorem Gh.meets(O:D.Ok)(h:Gh D Q Z S .leaf .leaf n g v c R U w t)(f:Z≠[]){b:p8}{r:qi}(V:stepG D.P vy (Bt c R) r=.comm (core (Bt c R)) #[scase D.L.Ch x b] jz .send r #[]){d:Bool}(M:w.heap[D.L.Ch]? = je (.chan 0 #[] vy s s d)){m1 m2 m3 m4:MemOp}(C:m1.g=D.L.k/\m1.act=.send D.L.Ch s)(J:m2.g=0/\m2.act=.recv D.L.Ch s 0)(A:m3.g=D.L.k/\m3.act=.sendDone D.L.Ch s)(q:m4.g=0/\m4.act=.recvDone D.L.Ch s) :
  ∃y l T,y.length<Z.length/\Open D y l T 1 1 (kt (core (Bt n g)) (gq #[x,o0 jz])) (kt (core (Bt c R)) re) (w.setChan D.L.Ch 0 #[] vy (s+1) (s+1) d) (t++#[m1,m2,m3,m4]):=by cases Z with| nil=>exact absurd rfl f| cons m Z=>have ⟨i,G,I,K,P,F⟩:=h.3.2 U.3;have e:=Afl (w2:=r) V (I.3 c r h.sb.2);(have Y:x=D.17 (sh c i) m:=by simp only[scase,hU,dX,CommCase.mk.injEq,aU]at e;exact e.1.2.1);have ⟨L,W,j,u,o,B,a,k,E,p,H,z⟩:=h.meet O M I K P F C J A q;exact⟨Z,W,j,gR _,L,_,u,o,B,a,k,E,p,zk ⟨rfl,by rwa[Y]⟩,zk ⟨rfl,z⟩,Aa⟩
end
section
def StepA.mono{F:gy->gy->qi->zq->Prop}(e:StepA P k a b h t K)(p:∀a b h t,K a b h t->F a b h t):StepA P k a b h t F:=by obtain⟨l,B,X,C,J⟩|⟨D,c,z,X,s,r,d,C,J,T,q⟩|⟨D,c,z,X,s,r,d,S,v,f,C,J,T,q⟩|⟨D,c,z,X,s,r,d,C,J,T,q⟩:=e;exact zk ⟨l,B,X,C,p _ _ _ _ J⟩;exact qx (zk ⟨D,c,z,X,s,r,d,C,J,T,p _ _ _ _ q⟩);exact qx (qx (zk ⟨D,c,z,X,s,r,d,S,v,f,C,J,T,p _ _ _ _ q⟩));exact qx (qx (qx ⟨D,c,z,X,s,r,d,C,J,T,p _ _ _ _ q⟩))
def StepB.mono{F:gy->gy->qi->zq->Prop}(e:StepB P k a b h t K)(p:∀a b h t,K a b h t->F a b h t):StepB P k a b h t F:=by obtain⟨l,B,X,C,J⟩|⟨D,c,v,z,X,s,r,d,C,J,T,q⟩|⟨D,c,v,z,X,s,r,d,S,f,C,J,T,q⟩:=e;exact zk ⟨l,B,X,C,p _ _ _ _ J⟩;exact qx (zk ⟨D,c,v,z,X,s,r,d,C,J,T,p _ _ _ _ q⟩);exact qx (qx ⟨D,c,v,z,X,s,r,d,S,f,C,J,T,p _ _ _ _ q⟩)
end
section
variable {D:Nu} {c:O} {f:Nat}
def NV(D:Nu)(μ:MuP)(a b:gy)(h:qi)(t:zq):Prop:=∃Z E j I f,Tq (muO (iY Z) E j (I+f)) μ/\Open D Z E j I f a b h t
theorem Gh.stepA1(O:D.Ok)(e:Gh D Q Z S E j n g v c R U h t)(Y:Z1 D Z j f c R b h):StepA D.P D.L.k (Bt n g) b h t (NV D (muO Z.length E j (1+f))):=by obtain⟨s,k,M⟩:=e.5;cases E with| node m=>obtain⟨d,X,o,G,a,C,J,B,q⟩:=e.stepA O _ _;obtain⟨W,K,p⟩:=J.5;refine zk ⟨_,d,X,C,Z,m v.3,j,1,f,.right _ (.left _ _ ⟨_,rfl⟩),Q,S,n,o,G,a,R,_,J,zk ⟨rfl,rfl⟩,?_,Aa⟩;rw[Y.woken e.runB p];exact Y.keep B q| leaf=>obtain⟨z,N⟩:=e.atA;have i:=N.2 n h e.sa.2;rw[e.ca.2]at i;obtain⟨A,u⟩|⟨A,u⟩:=Y.status e.runB;exact qx (zk ⟨_,D.L.4,z,#[],s,s,k,i,M,by rw[A];simp,Z,.leaf,j,0,f,YK Aa,Q,S,n,g,v,c,R,U,e,qx (zk ⟨rfl,rfl,z,rfl⟩),Y,Aa⟩);obtain⟨w,_⟩|⟨_,rfl,x,F,I,rfl,P,V⟩|⟨a1,w,_⟩:=Y;omega;refine qx (qx (zk ⟨_,D.L.4,z,#[],s,s,k,core _,F,I,i,M,rfl,?_⟩));(have a6:∀l:zq,MemOp.ofEvents 0 (Bt n g).1.1 (Bt n g).1.place #[]++l=l:=λl=>by simp[MemOp.ofEvents]);obtain⟨y,r,T,L,H⟩:=e.meets O x V M (m1:={ g:=D.L.k,fn:=(core (Bt c R)).1.1,pos:=(core (Bt c R)).1.place,act:=.send D.L.4 s }) (m2:={ g:=0,fn:=(core (Bt n g)).1.1,pos:=(core (Bt n g)).1.place,act:=.recv D.L.4 s 0 }) (m3:={ g:=D.L.k,fn:=(core (Bt c R)).1.1,pos:=(core (Bt c R)).1.place,act:=.sendDone D.L.4 s }) (m4:={ g:=0,fn:=(core (Bt n g)).1.1,pos:=(core (Bt n g)).1.place,act:=.recvDone D.L.4 s }) ⟨rfl,rfl⟩ ⟨rfl,rfl⟩ ⟨rfl,rfl⟩ ⟨rfl,rfl⟩;exact⟨y,r,T,1,1,.left _ _ Aa,H⟩;omega
def Open.stepA(O:D.Ok)(m:Open D Z E j I f a b h t)(e:a.status=.running):StepA D.P D.L.k a b h t (NV D (muO (iY Z) E j (I+f))):=by have ⟨Q,S,n,g,v,c,R,U,p,B,Y,o⟩:=m;obtain⟨rfl,rfl⟩|⟨_,_,z,rfl⟩|⟨w,rfl,G⟩:=B;exact p.stepA1 O Y;cases e;obtain C|⟨q,rfl,d⟩:=G.cases;obtain⟨rfl,_⟩:=C h (Nt.RoR.refl h);exact(p.stepA1 O Y).mono λa b h t⟨y,l,T,N,k,r,H⟩=>⟨y,l,T,N,k,Af0 r Aa,H⟩;obtain⟨J,u,X,V,⟨rfl,L⟩,i⟩:=d h (Nt.RoR.refl h);have ⟨s,x,M⟩:=p.5;refine zk ⟨J,u,X,V,Z,E,j,q+2,f,YK Aa,Q,S,n,g,v,c,R,U,p.ti' (Aia O.1 p.4 L _ _).1,qx (qx ⟨q,iW,i⟩),?_,Aa⟩;rwa[Y.woken p.runB M]
theorem Gh.stepB1(O:D.Ok)(e:Gh D Q Z S E j n g v c R U h t)(B:Uf D E I n g a h)(i:Z = []->j=.leaf->StepB D.P D.L.k a (Bt c R) h t K)(p:∀a b h t,NV D (muO Z.length E j (I+1)) a b h t->K a b h t):StepB D.P D.L.k a (Bt c R) h t K:=by obtain⟨s,A,M⟩:=e.5;cases j with| node m=>obtain⟨d,X,o,q,G,P,C,J,u,N⟩:=e.stepB O _ _;obtain⟨s',a1,w⟩:=J.5;refine zk ⟨_,d,X,C,p _ _ _ _ ⟨Z,E,m U.3,I,1,.right _ (.right _ (.left _ _ ⟨_,rfl⟩)),o,S,P,g,_,c,q,G,J,?_,zk ⟨rfl,rfl⟩,Aa⟩⟩;rw[B.woken e.runA w];exact B.keep u N| leaf=>cases Z with| nil=>exact i rfl rfl| cons x Z=>obtain⟨a6,z,F,_⟩:=e.3.2 U.3;have k:=F.3 c h e.sb.2;rw[e.cb.2]at k;obtain⟨f,W⟩|⟨f,W⟩:=B.status e.runA;exact qx (zk ⟨_,D.L.4,_,z,#[],s,s,A,k,M,by rw[f];simp,p _ _ _ _ ⟨x :: Z,E,.leaf,I,0,YK Aa,Q,S,n,g,v,c,R,U,e,B,qx (zk ⟨rfl,rfl,Ae,_,z,rfl,h,k⟩),Aa⟩⟩);obtain⟨Y,_⟩|⟨_,rfl,V,rfl⟩|⟨a7,Y,_⟩:=B;omega;refine qx (qx ⟨_,D.L.4,_,z,#[],s,s,A,core _,V,k,M,rfl,p _ _ _ _ ?_⟩);(have a8:∀l:zq,MemOp.ofEvents D.L.k (Bt c R).1.1 (Bt c R).1.place #[]++l=l:=λl=>by simp[MemOp.ofEvents]);obtain⟨y,r,T,L,H⟩:=e.meets O Ae k M (m1:={ g:=D.L.k,fn:=(core (Bt c R)).1.1,pos:=(core (Bt c R)).1.place,act:=.send D.L.4 s }) (m2:={ g:=0,fn:=(core (Bt n g)).1.1,pos:=(core (Bt n g)).1.place,act:=.recv D.L.4 s 0 }) (m3:={ g:=D.L.k,fn:=(core (Bt c R)).1.1,pos:=(core (Bt c R)).1.place,act:=.sendDone D.L.4 s }) (m4:={ g:=0,fn:=(core (Bt n g)).1.1,pos:=(core (Bt n g)).1.place,act:=.recvDone D.L.4 s }) ⟨rfl,rfl⟩ ⟨rfl,rfl⟩ ⟨rfl,rfl⟩ ⟨rfl,rfl⟩;exact⟨y,r,T,1,1,.left _ _ Aa,H⟩;omega
def Open.stepB(O:D.Ok){K:gy->gy->qi->zq->Prop}(m:Open D Z E j I f a b h t)(e:b.status=.running)(z:∀Q S n g v c R U,Gh D Q [] S E .leaf n g v c R U h t->Uf D E I n g a h->Z = []->j=.leaf->b=Bt c R->StepB D.P D.L.k a b h t K)(Y:∀a b h t,NV D (muO (iY Z) E j (I+f)) a b h t->K a b h t):StepB D.P D.L.k a b h t K:=by obtain⟨Q,S,n,g,v,c,R,U,p,B,o,A⟩:=m;obtain⟨rfl,rfl⟩|⟨_,_,_,F,P,rfl,_⟩|⟨W,rfl,G⟩:=o;exact p.stepB1 O B (λw x=>Aj) Y;cases e;obtain C|⟨q,rfl,d⟩:=G.cases;obtain⟨rfl,_⟩:=C h (Nt.RoR.refl h);exact p.stepB1 O B (λw x=>Aj) λa b h t⟨y,l,T,N,k,r,H⟩=>Y _ _ _ _ ⟨y,l,T,N,k,Af0 r Aa,H⟩;obtain⟨J,u,X,V,⟨rfl,L⟩,i⟩:=d h (Nt.RoR.refl h);obtain⟨s,a1,M⟩:=p.5;refine zk ⟨J,u,X,V,Y _ _ _ _ ⟨Z,E,j,I,q+2,YK Aa,Q,S,n,g,v,c,R,U,p.ti' (Aia O.1 p.4 L _ _).2,?_,qx (qx ⟨q,iW,i⟩),Aa⟩⟩;rwa[B.woken p.runA M]
def Open.wake(e:Open D Z E j I f a b h t)(P x d):woken P x d h a=a/\woken P x d h b=b:=by have ⟨Q,S,n,g,v,c,R,U,p,B,Y,V⟩:=e;have ⟨s,i,M⟩:=p.5;exact⟨B.woken p.runA M _ _,Y.woken p.runB M _ _⟩
def Open.awake(k:Open D Z E j I f a b h t):awake a/\awake b/\(a.status=.running∨b.status=.running):=by (have X:∀{g},(g.3=.running∨g.3=.blocked∨g.3=.finished)->Conc.awake g:=λk t e=>by grind);have ⟨Q,S,n,g,v,c,R,U,p,B,Y,V⟩:=k;obtain⟨C,_⟩|⟨C,d⟩:=B.status p.runA;exact⟨X (zk C),X ((Y.status p.runB).imp (·.1) λx=>zk x.1),zk C⟩;obtain⟨J,_⟩|⟨J,L⟩:=Y.status p.runB;grind;omega
def Open.mute(O:D.Ok){u d}(F:i≠0)(m:i≠D.L.k)(L:∀k∈X,Event.mute k=jz)(e:Open D Z E j I f a b h t):Open D Z E j I f a b h (t++MemOp.ofEvents i u d X):=by have ⟨Q,S,n,g,v,c,R,U,p,B,Y,V⟩:=e;exact⟨Q,S,n,g,v,c,R,U,p.ti' (p.4.appMute (O.1.parts Q) (.refl h) Ai0 (Deaf_other t (dH (dH F)) _ λl T=>Cq T) (Deaf_other t m _ λl T=>Cq T) λl T=>by obtain⟨k,N,rfl⟩:=xy T;exact low_mute (L k N) _),B,Y,V⟩
end
def Sy{a}{R i:qi->qi->Prop}{D c:qi->qi->Array Event->Prop}{b S:gy->qi->Prop}(e:∀w B,i w B->R w B)(m:∀w B X,D w B X->c w B X)(H:∀g w,b g w->S g w):∀{n} {g} {w},gz P a R D b n g w->gz P a i c S n g w
 |0,_,_,h=>λK U=>H _ _ (h K (e _ _ U))|n+1,g,w,h=>by obtain h|⟨s,h⟩:=h;exact zk λK U=>H _ _ (h K (e _ _ U));refine qx ⟨s,λK U=>?_⟩;have:=h K (e _ _ U);revert this;cases stepG P a g K<;>simp only[GStep.goes,imp_self];exact fun⟨d,x⟩=>⟨m _ _ _ d,Sy e m H x⟩
def Ue(P:jd)(aP a:gy)(w:qi):Prop:=aP.status=.running/\∃m,gz P jz AtRel D0 (λx _=>x=aP) m a w
def Ue.at_iff(d):Ue P b a (w.at d)↔Ue P b a w:=
 ⟨fun⟨h,m,G⟩=>⟨h,m,Goes.rely atRel_trans G ⟨w.drawn,iW⟩⟩,fun⟨h,m,G⟩=>⟨h,m,Goes.rely atRel_trans G ⟨d,iW⟩⟩⟩
def Zd{a}{b:gy->qi->Prop}{r:qi}:∀{n} {g} {w},(∃d,w=r.at d)->gz P a AtRel D0 b n g w->gz P a AtRel D0 (λR B=>b R B/\∃d,B=r.at d) n g w
 |0,_,_,⟨d,W⟩,h=>λK U=>⟨h K U,by obtain⟨M,rfl⟩:=U;exact⟨M,by rw[W];rfl⟩⟩|n+1,g,w,⟨d,W⟩,h=>by obtain h|⟨s,h⟩:=h;exact zk λK U=>⟨h K U,by obtain⟨M,rfl⟩:=U;exact⟨M,by rw[W];rfl⟩⟩;refine qx ⟨s,λK U=>?_⟩;have:=h K U;revert this;cases stepG P a g K<;>simp only[GStep.goes,imp_self];rintro⟨⟨S,L⟩,x⟩;refine⟨⟨S,L⟩,Zd ?_ x⟩;obtain⟨M,rfl⟩:=U;exact⟨M,by rw[S,W];rfl⟩
section
variable (D:Nu)
abbrev Nu.RW(w w₁:qi):Prop:=RG D.ty D.L.Wg w w₁
def Nu.KA(i:Nat)(_:Obj):Prop:=i≠D.L.Wg/\i≠D.L.Ch
def Nu.c0(KB:iH)(w0:qi)(aP:gy):NO:=
 {P:=D.P,Shun:=D.L.Shun,k:=D.L.k,Wg:=D.L.Wg,Ch:=D.L.Ch,ty:=D.ty,LA:=D.L.LA KB,LB:=D.L.LB KB,KB:=D.KA,w0,PostA:=Ue D.P aP }
def WCl(g:gy)(w:qi):Prop:=
 g.status=.running/\mayWake D.P g=jz/\∀s r tm,w.1[D.L.Ch]?=je (.chan 0 #[] vy s r tm) ->
  ∃g₂,stepG D.P vy g w=.go g₂ (w.shut D.L.Ch s r tm) #[⟨.obj D.L.Ch,vy,jz⟩,⟨.obj D.L.Ch,jz,jz⟩]/\g₂.status=.running/\∃m,gz D.P vy D.RW D0 (BR0 D.P D.ty D.L.Wg) m g₂ (w.shut D.L.Ch s r tm)
structure Xo where
 EndA:gy->qi->Prop
 EndB:(Nat->Prop)->qi->Prop
 atA:∀g v d,EndA g v->EndA g (v.at d)
 atB:∀S v d,EndB S v->EndB S (v.at d)
 finA:∀g v,D.18 g v->∃gP,EndA gP v/\(∀M,Bt (.up M) g=g->Bt (.up M) gP=gP)/\∀KB w0 n w,n.Fix D.P.globals.size->sh n D.4=D.L.Ch->sh n D.5=D.L.Wg->Fi D.ty D.L.Wg w->ARc (D.c0 KB w0 (Bt n gP)) (Bt n g) w
 finB:∀S g v,D.19 S g v->EndB S v/\∀n w,n.Fix D.P.globals.size->sh n D.6=D.L.Ch->sh n D.7=D.L.Wg->Fi D.ty D.L.Wg w->WCl D (Bt n g) w
end
section
variable {D:Nu} {r:qi}
def Nu.Ok.cfg(O:D.Ok)(Q r a):(D.c0 Q r a).Ok where
 hk:=O.1.1
 parts:=O.1.parts Q
 neq:=O.neq
 kb:=λi o b=>b.1
 postAt:=λm h d=>Ue.at_iff d
end
inductive WS|r0|k1|d1|qt
def WS.rk:WS->Nat
 |.r0=>4|.k1=>3|.d1=>2|.qt=>1
def WS.bt:WS->BT
 |.r0=>.r0|.k1=>.k1|.d1=>.d1|.qt=>.qt
def WS.df:WS->Nat
 |.d1|.qt=>1|_=>0
def WS.st:WS->Int
 |.qt=>0|_=>KK
def StW(D:Nu):WS->gy->qi->Prop
 |.r0=>BR0 D.P D.ty D.L.Wg|.k1=>BK1 D.P D.ty D.L.Wg|.d1=>BD1 D.P D.ty D.L.Wg|.qt=>λ_ _=>False
def BK(D:Nu):WS->Nat->Nat->gy->qi->Prop
 |.qt,rb,dB,b,w=>QuitsD D.P rb dB b
 |s,rb,dB,b,w=>dB=s.df/\∃n,rb=n+1/\gz D.P vy D.RW D0 (StW D s) n b w
section
variable {D:Nu} {r:qi} {w':qi} {s:WS} {f e:Nat}
def StW.running(a:StW D s m h):m.status=.running:=by cases s<;>first|exact a.1|exact a.elim
def BK.rely(a:BK D s f e b h)(Y:D.RW h w'):BK D s f e b w':=by cases s with|qt=>exact a|_=>have ⟨F,n,C,J⟩:=a;exact⟨F,n,C,Goes.rely rgT J Y⟩
def BK.status(a:BK D s f e b h):b.status=.running∨b.status=.finished:=by cases s with|qt=>exact QuitsD.status a|_=>have ⟨_,n,_,J⟩:=a;exact zk (J.running (λ_ _ a=>StW.running a) h SP)
def BK.b2(c:BK D s f e b h):Qx (D.c0 Q r a) s.bt f e b h:=by cases s with|qt=>exact qx ⟨iW,c⟩|_=>exact zk ⟨by simp[WS.bt],c⟩
end
structure Gc(D)(F:Xo D)(KB S TA n g v n' g' v' w t dB):Prop extends Gb D KB S n g v n' g' v' w where
 fa:FwT D.P jz D.JA (ScA D []) TA g v
 pb:Plain v'
 eb:F.2 S v'
 ti:D.L.TI KB t w 0 dB
 ch:∃s r tm,w.1[D.L.Ch]?=je (.chan 0 #[] jz s r tm)
structure ZT(D)(F:Xo D)(KB S w0 n gP v n' g' v'):Prop extends Gb D KB S n gP v n' g' v' w0 where
 pa:Plain v
 pb:Plain v'
 ea:F.1 gP v
 eb:F.2 S v'
 wg:Fi D.ty D.L.Wg w0
 ch:∃s r tm,w0.1[D.L.Ch]?=je (.chan 0 #[] jz s r tm)
section
variable {D:Nu} {F:Xo D} {c:O} {e:Nat} {s:WS}
def Gc.change(O:D.Ok)(b:Gc D F Q S E n g v c R U h t e)(i:Dd h d L)(N:∀f∈L,Hm D.L.Wg f.loc∨f.loc=.obj D.L.Ch){p Y}(C:D.L.TI Q p d 0 Y)(z:∃s r j,d.1[D.L.Ch]?=je (.chan 0 #[] jz s r j)):∃u a,Gc D F Q S E u g (v.at d.drawn) a R (U.at d.drawn) d p Y/\Bt u g=Bt n g:=
 let⟨u,a,J,G,_⟩:=b.1.change O i N
 ⟨u,a,⟨J,b.2.at _,b.3,F.4 _ _ _ b.eb,C,z⟩,G⟩
def Gc.tr(b:Gc D F Q S E n g v c R U h t e){a Y}(C:D.L.TI Q a h 0 Y):={ b with ti:=C }
def Gc.at(a:Gc D F Q S E n g v c R U h t e)(d):Gc D F Q S E n g (v.at d) c R (U.at d) (h.at d) t e:=⟨a.1.at d,a.2.at d,a.3,F.4 _ _ _ a.eb,MY a.ti (aA _) λ_ _=>Iff.rfl,a.ch⟩
def Gc.runA(a:Gc D F Q S E n g v c R U h t e):g.status=.running:=by cases E with|node f=>exact a.2.2.1|leaf=>have ⟨⟨z,N⟩,_⟩:=a.2.2 v.3;exact N.1
def Gc.stepA(O:D.Ok){f:Nat->Tree}(b:Gc D F Q S (.node f) n g v c R U h t e)(u y):∃d X o G a,stepG D.P jz (Bt n g) h=.go (Bt n o) d X/\Gc D F Q S (f v.drawn) n o G a R (U.at d.drawn) d (t++MemOp.ofEvents 0 u y X) e/\D.L.RoR h d/\(∀{st sm},Ev D.ty D.L.Wg h st sm->Ev D.ty D.L.Wg d st sm)/\∀j∈MemOp.ofEvents 0 u y X,j.g≠D.L.k/\j.act≠.mark (.release (Ic D.L.Wg)):=by obtain⟨p,w,I⟩:=b.2;obtain⟨o,G,E,k⟩:=I v.3;obtain⟨d,X,a,C,J,_,B,l,V,T,L,q,z⟩:=b.1.stepA O E;obtain⟨s,r,m,M⟩:=b.6;refine⟨d,X,o,G,a,C,⟨J,k,b.3,F.4 _ _ _ b.4,T _ _ b.5,⟨s,r,m,V M λ_ _ _ i=>by cases i⟩⟩,B,l,λj H=>?_⟩;obtain⟨i,N,rfl⟩:=xy H;exact⟨by show 0≠D.L.k;have:=O.1.1;omega,Aat (q i (z i N)) _⟩
theorem Gc.end(O:D.Ok)(d:Gc D F Q S .leaf n g v c R U h t e)(j:a=Bt n g∨∃cs q,a = { parked (core (Bt n g)) cs q with status:=.running })(k:BK D s rb e b h)(f:Ev D.ty D.L.Wg h s.st 0)(hrel:s≠.r0->∃r,RI D.L.k D.L.Wg t r) :
  ∃o M,ZT D F Q S h n o v c R U/\J (D.c0 Q h (Bt n o)) M a b h t:=by have ⟨_,hF⟩:=d.2.2 v.3;have ⟨o,N,l,y⟩:=F.5 _ _ hF;refine⟨o,_,⟨{ d.1 with sa:={ d.sa with wf:=⟨d.sa.4.1,l _ d.sa.4.2⟩ } },d.2.1,d.3,N,d.4,⟨_,_,f⟩,d.6⟩,qx ⟨.rc,s.bt,1,rb,rfl,d.6,⟨s.st,0,by cases s <;> rfl,f⟩,⟨e,d.5,k.b2⟩,zk ⟨0,rfl,λK Y=>?_⟩,λ_=>Aa,Jd.refl _ _,λm=>hrel λx=>m (by rw[x];rfl)⟩⟩;have i:=y Q h n K d.sa.2 d.ca.2 d.ga.2 (Y ⟨_,_,f⟩);obtain rfl|⟨cs,q,rfl⟩:=j;exact i;exact ARc.again i
end
section
variable (D:Nu) (F:Xo D)
def Clo(TA:H)(s:WS)(ra rb:Nat)(a b:gy)(w:qi)(t:zq):Prop:=
 ∃KB S n g v n' g' v' dB,Gc D F KB S TA n g v n' g' v' w t dB/\Uf D TA ra n g a w/\ra≠0/\BK D s rb dB b w/\Ev D.ty D.L.Wg w s.st 0/\(s≠.r0->∃r,RI D.L.k D.L.Wg t r)
def Asl(μ0:Nat×Nat)(a b:gy)(w:qi)(t:zq):Prop:=∃KB S w0 n gP v n' g' v',ZT D F KB S w0 n gP v n' g' v'/\J (D.c0 KB w0 (Bt n gP)) μ0 a b w t
def Aiw(a b:gy)(w:qi)(t:zq):Prop:=∃KB S w0 n gP v n' g' v',ZT D F KB S w0 n gP v n' g' v'/\Fin (D.c0 KB w0 (Bt n gP)) a b w t
def IN(TA:H)(s:WS)(r:Nat):MuP:=(1,TA,.leaf,(s.rk,r))
def JD(μ:MuP)(a b:gy)(w:qi)(t:zq):Prop:=
 (∃μ0,μ=(0,.leaf,.leaf,μ0)/\Asl D F μ0 a b w t)∨(∃TA s ra rb,μ=IN TA s (ra+rb)/\Clo D F TA s ra rb a b w t)∨∃ms TA TB ra rb,μ=muO (iY ms) TA TB (ra+rb)/\Open D ms TA TB ra rb a b w t
def JDL(μ:MuP)(a b:gy)(w:qi)(t:zq):Prop:=∃μ',Tq μ' μ/\JD D F μ' a b w t
end
section
variable {D:Nu} {F:Xo D} {c:O} {f e:Nat} {s:WS}
def Clo.runA(d:Clo D F E s I f a b h t):a.status=.running:=by have ⟨Q,S,n,m,v,c,R,U,e,p,B,z,_⟩:=d;obtain⟨C,_⟩|⟨_,C⟩:=B.status p.runA;exact C;exact absurd C z
def UX{s D}(h:r<D):Tq (IN E s r) (IN E s D):=.right _ (.right _ (.right _ (.right _ h)))
def Afz{s W D}(h:W.rk<s.rk):Tq (IN E W r) (IN E s D):=.right _ (.right _ (.right _ (.left _ _ h)))
def Abg{B x y}(h:H.Sub T E):Tq (k,T,B,x) (k,E,B,y):=.right _ (.left _ _ h)
def Clo.stepB(O:D.Ok)(a6:Clo D F E s I f a b h t)(M:b.status=.running):StepB D.P D.L.k a b h t (JDL D F (IN E s (I+f))):=by have w:∀i d,woken D.P b i d a=a:=λi d=>Ey (zk a6.runA);obtain⟨Q,S,n,m,v,c,R,U,e,p,B,y,z,k,hrel⟩:=a6;(have J:∀{s} {j},(s=.r0∨s=.k1∨s=.d1)->e=s.df->Ev D.3 D.L.3 h s.st 0->(s≠.r0->∃u,RI D.L.k D.L.3 t u) ->(∀P,D.RW h P->∃R d X,stepG D.P vy b P=.go R d X/\D0 P d X/\gz D.P vy D.RW D0 (StW D s) j R d)->StepB D.P D.L.k a b h t (JDL D F (IN E s (I+(j+1+1)))):=by intro s j ab r k hrel H;obtain⟨i,a7,X,V,hD,a8⟩:=H h SP;obtain⟨W,Y⟩:a7=h/\X=#[]:=⟨hD.1,hD.2⟩;subst W Y;refine zk ⟨i,_,#[],V,IN E s (I+(j+1)),UX Aa,qx (zk ⟨E,s,I,j+1,iW,?_⟩)⟩;rw[w,MC];refine⟨Q,S,n,m,v,c,R,U,e,p,B,y,?_,k,hrel⟩;obtain rfl|rfl|rfl:=ab<;>exact⟨r,j,iW,a8⟩);have a1:∀h,(D.c0 Q h a).Ok:=λh=>O.cfg Q h a;cases s with|r0=>obtain⟨r,j,rfl,K⟩:=z;obtain C|⟨m',rfl,H⟩:=K.cases;rotate_left;grind;obtain⟨_,i,V,q,L⟩:=C h SP;refine zk ⟨i,h,_,V,IN E .k1 (I+(q+1)),Afz Ad,qx (zk ⟨E,.k1,I,q+1,iW,?_⟩)⟩;rw[w];subst r;exact⟨Q,S,n,m,v,c,R,U,_,p.tr (MZ (a1 h) p.5 (.refl _) (JZ k) (λg N=>by simp at N;exact qx (qx (qx N))) _ _),B,y,⟨iW,q,iW,L⟩,k,λ_=>⟨_,RI.new p.5.6 _ _⟩⟩|k1=>obtain⟨r,j,rfl,K⟩:=z;obtain C|⟨m',rfl,H⟩:=K.cases;rotate_left;grind;obtain⟨_,i,V,q,L⟩:=C h SP;obtain⟨u,A⟩:=hrel Ae;refine zk ⟨i,h,_,V,IN E .d1 (I+(q+1)),Afz Ad,qx (zk ⟨E,.d1,I,q+1,iW,?_⟩)⟩;rw[w];subst r;exact⟨Q,S,n,m,v,c,R,U,_,p.tr (MZ (a1 h) p.5 (.refl _) (JZ k) (λg N=>by simp at N;exact qx (zk N)) _ _),B,y,⟨iW,q,iW,L⟩,k,λ_=>⟨u,A.appOwn _ _ _ (λg N=>by simp at N;subst N;simp[Vj]) λT g N=>zk RV⟩⟩|d1=>obtain⟨r,j,rfl,K⟩:=z;obtain C|⟨m',rfl,H⟩:=K.cases;rotate_left;exact J (qx (qx iW)) r k hrel H;obtain⟨_,hK,_⟩:=C h SP;obtain⟨u,A⟩:=hrel Ae;obtain⟨i,V,q,L⟩:=hK k;refine zk ⟨i,_,_,V,IN E .qt (I+q),Afz Ad,qx (zk ⟨E,.qt,I,q,iW,?_⟩)⟩;rw[w];subst r;obtain⟨x,aa,ad,aj⟩:=p.6;obtain⟨ae,n3,af,Y⟩:=p.change O (G9 h (Ic D.L.3) (.int .u64 0) jz) (λg N=>by simp at N;subst N;exact zk ⟨_,iW,iW⟩) (MZ (a1 h) p.5 (CY _ _) (by rw[Sc];exact JZ k) (UE _) b.1.1 b.1.place) ⟨x,aa,ad,by rwa[E1 _ _ (by exact dH O.2)]⟩;refine⟨Q,S,ae,m,_,n3,R,_,_,af,B.keep Y (VZ O.1 (G9 h (Ic D.L.3) (.int .u64 0) jz) λg N=>by simp at N;subst N;exact zk ⟨_,iW,iW⟩),y,L,Ml k 0,λ_=>⟨u,Ym (C:=D.c0 Q h a) A p.5.6 (qx (qx (zk iW))) _ _⟩⟩|qt=>cases f with|zero=>rw[z.1]at M;cases M|succ j=>obtain⟨ah,_⟩|⟨_,i,X,o,V,ai⟩:=z;rw[ah]at M;cases M;refine zk ⟨i,h,X,V h,IN E .qt (I+j),UX Aa,qx (zk ⟨E,.qt,I,j,iW,?_⟩)⟩;rw[w];refine⟨Q,S,n,m,v,c,R,U,_,p.tr ?_,B,y,ai,k,λW=>?_⟩;refine TI.appB (O.1.parts _) O.1.1 p.5 (.refl h) (λop G=>Cq G) (λop G x Z _=>?_) ?_ (λop G=>?_);exact X4y;rw[xr];exact aK (deafBehind · X) p.5.6;obtain⟨g,N,rfl⟩:=xy G;exact low_mute (o g N) _;obtain⟨u,A⟩:=hrel W;refine⟨u,A.appOwn _ _ _ (λg N x=>?_) λT g N=>zk (touch_mute (o g (cN N)))⟩;have:=o g N;obtain⟨l,wr,ak⟩:=g;simp only at x;subst x;simp[Event.mute]at this
def Gc.stepA1(O:D.Ok){g:Nat->Tree}(p:Gc D F Q S (.node g) n m v c R U h t e)(j:BK D s f e b h)(k:Ev D.ty D.L.Wg h s.st 0)(hrel:s≠.r0->∃r,RI D.L.k D.L.Wg t r)(l):StepA D.P D.L.k (Bt n m) b h t (JDL D F (IN (.node g) s l)):=by obtain⟨d,X,o,G,a,C,J,T,q,z⟩:=p.stepA O _ _;refine zk ⟨_,d,X,C,IN _ s _,Abg ⟨_,iW⟩,qx (zk ⟨g v.3,s,1,f,iW,Q,S,n,o,G,a,R,_,e,J,zk ⟨iW,iW⟩,Aa,?_,q k,λu=>let⟨r,w⟩:=hrel u;⟨r,w.appOther z⟩⟩)⟩;rw[Ey j.status];exact j.rely fun⟨i,sm,x⟩=>⟨i,sm,q x⟩
def Clo.step(O:D.Ok)(u:Clo D F E s I f a b h t):Aiw D F a b h t∨((a.status=.running->StepA D.P D.L.k a b h t (JDL D F (IN E s (I+f))))/\(b.status=.running->StepB D.P D.L.k a b h t (JDL D F (IN E s (I+f))))):=by
 have q:=u.stepB O;obtain⟨Q,S,n,m,v,c,R,U,e,p,B,z,j,k,hrel⟩:=u;have w:E=.leaf->a=Bt n m->Aiw D F a b h t∨((a.3=.running->StepA D.P D.L.k a b h t (JDL D F (IN E s (I+f))))/\(b.3=.running->StepB D.P D.L.k a b h t (JDL D F (IN E s (I+f))))):=λd l=>by subst d;obtain⟨o,a6,g,W⟩:=p.end O (zk l) j k hrel;obtain y|⟨y,J⟩:=W.step (O.cfg Q h (Bt n o));exact zk ⟨Q,S,h,n,o,v,c,R,U,g,y⟩;exact qx ⟨λY=>(y Y).mono λa b _ t⟨i,K,W⟩=>⟨(0,.leaf,.leaf,i),.left _ _ Ad,zk ⟨i,iW,Q,S,h,n,o,v,c,R,U,g,W⟩⟩,λY=>(J Y).mono λa b _ t⟨i,K,W⟩=>⟨(0,.leaf,.leaf,i),.left _ _ Ad,zk ⟨i,iW,Q,S,h,n,o,v,c,R,U,g,W⟩⟩⟩
 obtain⟨x,rfl⟩|⟨x,_⟩|⟨a7,rfl,G⟩:=B;cases E with|leaf=>exact w iW iW|node H=>exact qx ⟨λ_=>p.stepA1 O j k hrel _,q⟩
 exact absurd x z;obtain C|⟨r,rfl,M⟩:=G.cases;obtain⟨l,_⟩:=C h (Nt.RoR.refl h);cases E with|leaf=>exact w iW l|node H=>subst l;exact qx ⟨λ_=>p.stepA1 O j k hrel _,q⟩
 refine qx ⟨λ_=>?_,q⟩;obtain⟨N,P,X,V,⟨rfl,L⟩,A⟩:=M h (Nt.RoR.refl h);refine zk ⟨N,P,X,V,IN E s (r+2+f),UX Aa,qx (zk ⟨E,s,r+2,f,iW,Q,S,n,m,v,c,R,U,e,p.tr (Aia O.1 p.5 L _ _).1,qx (qx ⟨r,iW,A⟩),Aa,?_,k,λd=>let⟨T,g⟩:=hrel d;⟨T,g.appOther λa8 Z=>?_⟩⟩)⟩;rwa[Ey j.status];obtain⟨d,a1,rfl⟩:=xy Z;obtain⟨aa,rfl,_,_⟩:=L d a1;exact⟨by show 0≠D.L.k;have:=O.1.1;omega,by simp[MemAct.ofEvent]⟩
end
open Go.ConcN (sumTo upd sumTo_upd upd_ne upd_same)
section
variable {D:Nu} {F:Xo D} {c:O} {e:Nat} {s:WS} {f:MuP}
theorem Gh.close(O:D.Ok)(h:Gh D Q [] S E .leaf n g v c R U w t)(B:Uf D E I n g a w)(l:Nat):StepB D.P D.L.k a (Bt c R) w t (JDL D F (muO 0 E .leaf l)):=by
 obtain⟨ag,hF⟩:=h.3.2 U.3;obtain⟨H,j⟩:=F.6 _ _ _ hF;obtain⟨_,L,j⟩:=j c w h.sb.2 h.cb.2 h.gb.2 ⟨_,_,h.6⟩;obtain⟨s,d,M⟩:=h.5;obtain⟨f,C,J,m,T⟩:=j s s d M;have Y:(w.shut D.L.4 s s d).1[D.L.4]? = je (.chan 0 #[] jz s s d):=QS (Pd M);have X:Dd w (w.shut D.L.4 s s d) #[⟨.obj D.L.4,jz,jz⟩]:=Mh w M (λ_ _ _ e=>M2) (.chan 0 #[] jz s s d) (λ_ _ _ e=>M2) jz rfl;obtain⟨u,k,K,G,_⟩:=h.1.change O X λe N=>Aj;have o:Ev D.3 D.L.3 (w.shut D.L.4 s s d) KK 0:=by have e:(w.shut D.L.4 s s d).1[D.L.3]? = w.1[D.L.3]?:=Yi O.2;have p:=h.6;rw[Ev]at p⊢;exact e.trans p
 have q:Gc D F Q S E u g (v.at (w.shut D.L.4 s s d).3) k R (U.at (w.shut D.L.4 s s d).3) (w.shut D.L.4 s s d) (t++MemOp.ofEvents D.L.k (Bt c R).1.1 (Bt c R).1.place #[⟨.obj D.L.4,vy,jz⟩,⟨.obj D.L.4,jz,jz⟩]) 0:=⟨K,h.2.at _,h.3.1,F.4 _ _ _ H,(Ah9 (O.cfg Q w a) h.4 (show Po w (w.shut D.L.4 s s d) from Afj M rfl) (Pd Y) (Bt c R).1.1 (Bt c R).1.place),⟨s,s,d,Y⟩⟩;have r:BK D .r0 (m+1) 0 f (w.shut D.L.4 s s d):=⟨rfl,m,rfl,T⟩;have P:∀{x:gy},woken D.P (Bt c R) f (w.shut D.L.4 s s d) a=a->I≠0->StepB D.P D.L.k a (Bt c R) w t (JDL D F (muO 0 E .leaf l)):=λ{x} e i=>zk ⟨f,_,_,C,IN E .r0 (I+(m+1)),.left _ _ Aa,qx (zk ⟨E,.r0,I,m+1,rfl,Q,S,u,g,_,k,R,_,0,q,by rw[e];exact B.keep G (VZ O.1 X λe N=>Aj),i,r,o,λe=>absurd rfl e⟩)⟩;obtain⟨y,i⟩|⟨y,i⟩:=B.status h.runA;exact P (x:=a) (Ey (zk y)) i;obtain⟨e,_⟩|⟨_,rfl,z,rfl⟩|⟨Z,e,_⟩:=B;omega;have e:woken D.P (Bt c R) f (w.shut D.L.4 s s d) (parked (core (Bt n g)) #[rcase D.L.4 z] (.recv jz)) = { parked (core (Bt n g)) #[rcase D.L.4 z] (.recv jz) with status:=.running }:=by rw[woken,aL (by rw[L,J];rfl)];exact again_recv_closed Y
 obtain⟨V,A,b,W⟩:=q.end (a:=woken D.P (Bt c R) f (w.shut D.L.4 s s d) (parked (core (Bt n g)) #[rcase D.L.4 z] (.recv jz))) O (qx ⟨_,_,by rw[e,G]⟩) r o λe=>absurd rfl e;exact zk ⟨f,_,_,C,(0,.leaf,.leaf,A),.left _ _ Aa,zk ⟨A,rfl,Q,S,_,u,V,_,k,R,_,b,W⟩⟩;omega
def JD.step(O:D.Ok)(k:JD D F f a b w t):Aiw D F a b w t∨((a.status=.running->StepA D.P D.L.k a b w t (JDL D F f))/\(b.status=.running->StepB D.P D.L.k a b w t (JDL D F f))):=by obtain⟨M,rfl,Q,S,r,n,o,v,c,R,U,h,W⟩|⟨E,s,I,u,rfl,k⟩|⟨Z,E,j,I,u,rfl,k⟩:=k;obtain C|⟨C,J⟩:=W.step (O.cfg Q r (Bt n o));exact zk ⟨Q,S,r,n,o,v,c,R,U,h,C⟩;exact qx ⟨λY=>(C Y).mono λa b w t⟨i,K,W⟩=>⟨_,.right _ (.right _ (.right _ K)),zk ⟨i,iW,Q,S,r,n,o,v,c,R,U,h,W⟩⟩,λY=>(J Y).mono λa b w t⟨i,K,W⟩=>⟨_,.right _ (.right _ (.right _ K)),zk ⟨i,iW,Q,S,r,n,o,v,c,R,U,h,W⟩⟩⟩;exact k.step O;have e:∀a b w t,NV D _ a b w t->JDL D F (muO (iY Z) E j (I+u)) a b w t:=λa b w t⟨y,l,T,N,d,K,H⟩=>⟨_,K,qx (qx ⟨y,l,T,N,d,iW,H⟩)⟩;refine qx ⟨λY=>(k.stepA O Y).mono e,λY=>k.stepB O Y (λQ S n g v c R U p B m L q=>?_) e⟩;subst m L q;exact p.close O B _
def JD.at(O:D.Ok)(d)(k:JD D F f a b w t):JD D F f a b (w.at d) t:=by obtain⟨M,rfl,Q,S,r,n,o,v,c,R,U,h,W⟩|⟨E,s,I,l,rfl,Q,S,n,g,v,c,R,U,e,q,B,y,A,C,i⟩|⟨Z,E,j,I,l,rfl,k⟩:=k;exact zk ⟨M,iW,Q,S,r,n,o,v,c,R,U,h,W.at (O.cfg _ _ _) d⟩;exact qx (zk ⟨E,s,I,l,iW,Q,S,n,g,_,c,R,_,e,q.at d,B.keep iW ((Nt.RoR.refl _).at d),y,A.rely λx=>x,C,i⟩);exact qx (qx ⟨Z,E,j,I,l,iW,k.at d⟩)
def JD.mute(O:D.Ok){u d}(G:i≠0)(p:i≠D.L.k)(L:∀m∈X,Event.mute m=jz)(k:JD D F f a b w t):JD D F f a b w (t++MemOp.ofEvents i u d X):=by obtain⟨M,rfl,Q,S,r,n,o,v,c,R,U,h,W⟩|⟨E,s,I,Y,rfl,Q,S,n,g,v,c,R,U,e,q,B,y,A,C,P⟩|⟨Z,E,j,I,Y,rfl,k⟩:=k;exact zk ⟨M,iW,Q,S,r,n,o,v,c,R,U,h,W.mute (O.cfg _ _ _) G p L⟩;refine qx (zk ⟨E,s,I,Y,iW,Q,S,n,g,v,c,R,U,e,q.tr (JW (O.cfg Q w a) q.5 G p L _ _),B,y,A,C,λm=>let⟨H,h⟩:=P m;⟨H,h.appOther λJ T=>?_⟩⟩);obtain⟨m,N,rfl⟩:=xy T;refine⟨p,λx=>?_⟩;have:=L m N;have ⟨l,wr,z⟩:=m;(cases l with|mark K=>cases wr<;>cases z<;>simp[MemAct.ofEvent]at x<;>subst x<;>simp[Event.mute]at this|_=>simp[Event.mute]at this);exact qx (qx ⟨Z,E,j,I,Y,iW,k.mute O G p L⟩)
def JD.wake(O:D.Ok)(x d)(k:JD D F f a b w t):∃i,JD D F i (woken D.P x d w a) (woken D.P x d w b) w t:=by obtain⟨M,rfl,Q,S,r,n,o,v,c,R,U,h,W⟩|⟨E,s,I,y,rfl,k⟩|⟨Z,E,j,I,y,rfl,k⟩:=k;have ⟨l,C⟩:=W.wake (O.cfg Q r (Bt n o)) x d;exact⟨_,zk ⟨l,iW,Q,S,r,n,o,v,c,R,U,h,C⟩⟩;(have m:b.3=.running∨b.3=.finished:=by have ⟨Q,S,n,g,v,c,R,U,e,u,B,z,p,_⟩:=k;exact p.status);rw[Ey (zk k.runA),Ey m];exact⟨_,qx (zk ⟨E,s,I,y,iW,k⟩)⟩;have ⟨q,L⟩:=k.wake D.P x d;rw[q,L];exact⟨_,qx (qx ⟨Z,E,j,I,y,iW,k⟩)⟩
def JD.awake(k:JD D F f a b w t):awake a/\awake b/\(a.status=.running∨b.status=.running):=by (have X:∀{g},(g.3=.running∨g.3=.blocked∨g.3=.finished)->Conc.awake g:=λk t i=>by grind);obtain⟨M,rfl,Q,S,r,n,o,v,c,R,U,h,W⟩|⟨E,s,I,l,rfl,k⟩|⟨Z,E,j,I,l,rfl,k⟩:=k;exact W.awake;have y:=k.runA;have ⟨Q,S,n,g,v,c,R,U,e,p,B,z,d,_⟩:=k;exact⟨X (zk y),X (d.status.imp id qx),zk y⟩;exact k.awake
def VH(O:D.Ok){gs sl}{q:Nat->Nat}(k:gs[0]?=je a)(x:gs[D.L.k]?=je b)(H:Oh D.P t gs D.L.k q)(W:JD D F f a b w t):∃N I e d A j K,
   runNT D.P N (crowd gs w sl) t=(.next (crowd I d A),j)/\I.size=gs.size/\I[0]?=je e/\e.status=.running/\(∃Q S r n o v c R U,ZT D F Q S r n o v c R U/\Jd D.KA r d/\Ue D.P (Bt n o) e d)/\Adk D.ty D.L.Wg D.L.Ch d /\
   Leavers D.P j I K/\Past (λl=>D.L.Shun l∨Hm D.L.Wg l) d.1.size j:=by obtain⟨N,I,e,Z,d,A,j,K,Y,J,y,E,⟨Q,S,r,n,o,v,c,R,U,s,i⟩,z⟩:=Agm (P:=D.P) (k:=D.L.k) (lt:=Tq) (J:=JD D F) (Fin:=Aiw D F) O.1.1 Afu (λf a b w t m h=>h.at O m) (λa b w t m⟨Q,S,r,n,o,v,c,R,U,s,h⟩=>⟨Q,S,r,n,o,v,c,R,U,s,h.back (O.cfg _ _ _) m⟩) (λf a b w t p fn P es k L T h=>h.mute O k L T) (λf a b w t g R h=>h.wake O g R) (λf a b w t h=>h.awake) (λf a b w t h=>h.step O) (sumTo gs.size q) f gs a b w sl t q (aA _) k x H W;obtain⟨u,C⟩:=i.3;obtain⟨V,X⟩:=i.4;refine⟨N,I,e,d,A,j,upd K D.L.k u,Y,J,y,i.1,⟨Q,S,r,n,o,v,c,R,U,s,X,V⟩,i.5,⟨λp g B G=>?_,z.2⟩,i.2⟩;by_cases M:p=D.L.k;subst M;rw[E]at G;obtain rfl:=aC G;rwa[upd_same];rw[upd_ne K u M];exact z.1 p g B M G
end
open Go.ConcN (sumTo upd sumTo_upd upd_ne upd_same)
section
variable {d:Nat}
def Ends.forkD(s:g.status=.running)(h:∀n k,0<k->∃(D:Nu)(F:Xo D)(Q:iH)(b a:gy),D.P=P/\D.L.k=k/\D.L.Shun=y/\D.Ok/\stepG P jz g (w.at n)=.spawn b a (w.at n) #[] /\
   (∀t,D.L.TI Q t (w.at n) 0 0->∃x,JD D F x b a (w.at n) t) /\
   ∀Q S r n o C E R G B,ZT D F Q S r n o C E R G->Jd D.KA r B->Adk D.ty D.L.Wg D.L.Ch B->o.status=.running->Ends P Y (λl=>y l∨Hm D.L.Wg l) 0 (Bt n o) B):Ends P Y y 0 g w:=by
 refine Ends.pick s λn gs A t q i c H=>?_;have d:0<gs.size:=(aJ.1 i).1;obtain⟨D,F,Q,b,a,J,m,K,O,hs,W,L⟩:=h n gs.size d;subst J K;let M:=b;have I:=runT_crowd_spawn (P:=D.P) (sl:=A) (i:=0) i (show stepG D.P (0==0) g (w.at n)=_ from hs);have N:((MemOp.ofEvents 0 g.1.1 g.1.place #[]).push { g:=0,fn:=g.1.1,pos:=g.1.place,act:=.go gs.size }).push { g:=gs.size,fn:=a.1.1,pos:=g.1.place,act:=.start }=#[({ g:=0,fn:=g.1.1,pos:=g.1.place,act:=.go D.L.k }:MemOp),{ g:=D.L.k,fn:=a.1.1,pos:=g.1.place,act:=.start }]:=by rw[m];simp[MemOp.ofEvents]
 rw[N]at I;have z:∀op∈(#[({ g:=0,fn:=g.1.1,pos:=g.1.place,act:=.go D.L.k }:MemOp),{ g:=D.L.k,fn:=a.1.1,pos:=g.1.place,act:=.start }]:zq),op.4≠.mark .disable/\op.4≠.mark .enable:=λop T=>by simp at T;obtain rfl|rfl:=T<;>simp
 have V:((gs.setIfInBounds 0 b).push a)[D.L.k]?=je a:=by have e:((gs.setIfInBounds 0 b).push a)[(gs.setIfInBounds 0 b).size]?=je a:=Array.getElem?_push_size;rw[Array.size_setIfInBounds]at e;rwa[m]
 obtain⟨X,Z,a1,B,aq,t',q',p,hz,x0,af,⟨a6,S2,a7,n2,a8,v2,n3,g3,v3,xR,xK,xa⟩,xE,xL,xP⟩:=VH (D:=D) (F:=F) (a:=b) (b:=a) (w:=w.at n) (sl:=A) (q:=q) O (gs:=(gs.setIfInBounds 0 b).push a) (t:=t++#[({ g:=0,fn:=g.1.1,pos:=g.1.place,act:=.go D.L.k }:MemOp),{ g:=D.L.k,fn:=a.1.1,pos:=g.1.place,act:=.start }]) (by rw[zj (by simpa using d)];simp[d]) V ⟨λj u f ah U=>by (have v:j<gs.size:=by have:=(aJ.1 U).1;simp at this;omega);rw[zj (by simpa using v)]at U;rw[jl t j _ z];apply c.1 j u f;(have e:(gs.setIfInBounds 0 b)[j]?=je u:=by rwa[aN (by simpa using v)]);rwa[aE Aa]at e,λj f=>by rw[jl t j _ z];apply c.2 j;simp at f;omega⟩ (W _ (Ak9 (C:=D.c0 Q (w.at n) M) (w:=w.at n) (t:=t) O.1.1 H.to (c.2 D.L.k Aa) g.1.1 a.1.1 g.1.place g.1.place)).choose_spec;obtain⟨aa,xm,ab⟩:=xa;have al:Ends D.P Y (λl=>D.L.1 l∨Hm D.L.3 l) 0 a1 B:=Ends.goes (D:=D0) (λw1 w2 es h=>by obtain⟨rfl,rfl⟩:=h;exact⟨aA _,Ae⟩) (λg1 w1 h=>by obtain⟨rfl,d1,rfl⟩:=h;exact L a6 S2 a7 n2 a8 v2 n3 g3 v3 (B.at d1) xR (xK.trans (Jd.at _ _ _)) xE aa) (Zd ⟨B.3,iW⟩ ab);obtain⟨N2,ad,ae,wf,tf,r1,r2,r3,r4⟩:=al Z aq t' q' x0 xL (.of xP);refine⟨_,_,I,X+N2,ad,ae,wf,tf,?_,?_,r3,r4⟩;rwa[eW,runNT_add,p];rwa[runN_add,←runNT_fst D.P _ _ (t++#[({ g:=0,fn:=g.1.1,pos:=g.1.place,act:=.go D.L.k }:MemOp),{ g:=D.L.k,fn:=a.1.1,pos:=g.1.place,act:=.start }]),p]
end
structure KH(S:iH):Prop where
 cell:∀a a':Addr,S (.cell a)->a'.block=a.block->S (.cell a')
 obj:∀r,¬S (.obj r)
def KH.wg{S}(h:KH S)(q):KH λl=>S l∨Hm q l:=⟨λb a d e=>by obtain d|⟨c,D,E⟩:=d;exact zk (h.1 b a d e);cases D;exact qx ⟨a,iW,e.trans E⟩,λr Y=>by obtain Y|⟨c,D,_⟩:=Y;exact h.2 r Y;cases D⟩
structure Fh where
 post:p8->qi->Prop
 In:Loc->Prop
 W0:qi
 ex:∀a,In (.cell a)->∃x,W0.cell? a=je x
 exO:∀r,In (.obj r)->∃o,W0.1[r]?=je o/\Cn o
 exM:∀l,In l->(∃a,l=.cell a)∨∃r,l=.obj r
 num:Nat
 nf:Nat->Nat
structure Fh.Kept(H:Fh)(w:qi):Prop where
 cell:∀a,H.In (.cell a)->w.cell? a=H.3.cell? a
 row:∀r(c:iJ)e(fz:Nat×Nat),H.3.1[r]?=je (pf c e fz)->(c=#[]∨∃j,H.In (.cell (iR r j)))->∃c',w.1[r]?=je (pf c' e fz)/\c'.size=c.size
 obj:∀r(o:Obj),H.In (.obj r)->H.3.1[r]?=je o->Cn o->w.1[r]?=je o
def Fh.Kept.low{H:Fh}(h:H.Kept w)(K:H.In l):Qs w.1.size l:=by obtain⟨a,rfl⟩|⟨r,rfl⟩:=H.6 l K;have ⟨x,Z⟩:=H.4 a K;rw[←h.1 a K]at Z;exact Lb Z;have ⟨o,O,z⟩:=H.5 r K;exact(aJ.1 (h.3 r o K O z)).1
def Fh.Kept.at{H:Fh}(h:H.Kept w)(d):H.Kept (w.at d):=⟨h.cell,h.row,h.obj⟩
def Fh.Kept.frame{H:Fh}{B}(h:H.Kept w)(f:Dd w B L)(N:∀e∈L,e.write=jz->¬H.In e.loc):H.Kept B:=⟨λa d=>(f.2 a (h.low d) λe Z W K=>N e Z W (K▸d)).trans (h.1 a d),λr c e b Y V=>by have ⟨Q,C,J⟩:=h.2 r c e b Y V;have ⟨R,T,q⟩:=f.4 r Q e b C;grind,λr o Y O z=>f.3 r o (h.3 r o Y O z) z λe Z W K=>N e Z W (K▸Y)⟩
def Fh.Kept.ror{H:Fh}{C:Nt}{B}(h:H.Kept w)(Y:C.RoR w B)(V:∀l,H.In l->C.5 l):H.Kept B:=⟨λa d=>(Y.2 a (V _ d) (h.low d)).trans (h.1 a d),λr c e b Z M=>by have ⟨Q,f,J⟩:=h.2 r c e b Z M;have ⟨R,T,q⟩:=Y.3 r Q e b f;grind,λr o Z O z=>Y.4 r o (V _ Z) (h.3 r o Z O z) z⟩
def Fh.Own(H:Fh)(Shun:iH)(l:Loc):Prop:=¬Shun l/\¬H.In l
structure Fh.Shd(H:Fh)(w:qi)(Shun:iH)(n):Prop where
 low:∀l,Shun l->Qs w.1.size l
 blk:KH Shun
 off:∀l,Shun l->¬H.In l
 kept:H.Kept w
 nn:∀i<H.num,sh n i=H.nf i/\H.nf i<iZ w.1
def Fh.Shd.at{H:Fh}{p}(h:H.Shd w p n)(d):H.Shd (w.at d) p n:=⟨h.low,h.blk,h.off,h.kept.at d,h.nn⟩
def EN(P:jd)(Post:Fh)(J:iH)(g:gy)(v:qi):Prop:=
 ∀n(w:qi)Shun,Dp P n J (Post.Own Shun) g v w->Post.Shd w Shun n->Ends P Post.post Shun 0 (Bt n g) w
section
variable {Y:Fh} {J U:iH}
def EN.ofT:∀{T} {g} {v},FwT P jz J (EN P Y J) T g v->EN P Y J g v:=by intro T;induction T with|leaf=>exact λ{g v} h=>h.2 v.3|node f O=>intro g v h n w p k H;have ⟨_,s,I⟩:=h;refine Ends.step s λd=>?_;have ⟨a,U,E,F⟩:=I d;have ⟨B,X,L,C,j,b,q,z⟩:=(k.at d).step E (λ_ _ h=>h) λl R=>⟨λZ=>E2 (aA _) (H.1 l Z) R,λZ=>E2 (aA _) (H.4.low Z) R⟩;refine⟨Bt n a,B,X,C,b.1,λe N=>⟨λx Z H=>by obtain C|⟨r,_,_,C⟩:=Xw (q e (z e N)) Z;exact absurd H C.1;rw[C];simp,LD (q e (z e N))⟩,?_⟩;rw[o6 λe N=>Xv (q e (z e N))];exact O d F n B p j ⟨λl Z=>Pc b.1 (H.1 l Z),H.2,H.3,(H.4.at d).frame b λe N W=>by obtain⟨x,_⟩|⟨m,x⟩:=P0 (q e N) W;exact x.2;rw[x];exact λV=>(by obtain⟨c,e⟩|⟨r,e⟩:=Y.6 _ V<;>cases e),λi V=>⟨(H.5 i V).1,aB (H.5 i V).2 b.1⟩⟩
def EN.ret(s:m.status=.running)(h:∀n w p,Dp P n J (Y.Own p) m v w->Y.Shd w p n->∃x,(∀d,stepG P jz (Bt n m) (w.at d)=.ended (.done x) (w.at d) #[])/\∀d,Y.post x (w.at d)):EN P Y J m v:=λn w p b H=>
 Ends.ret s λd=>let⟨x,C,a⟩:=h n w p b H;⟨x,#[],C d,Ae,a d⟩
def Dp.recast{a b G B}(h:Dp P n J a m v w)(N:iZ G.1=iZ v.1)(W:iZ w.1<=iZ B.1)(c:B.tape=G.tape)(y:B.drawn=G.drawn)(O:B.os=G.os)(Q:B.output=G.output)(H:iZ B.1=iZ w.1)(K:∀i o,G.1[i]?=je o->∃I,B.1[sh n i]?=je I/\LikeO n U i o I)(d:Wf U R G)(e:∀l,Jf G l->¬U l->b (Ha n l)):Dp P n U b R G B:=⟨λt=>⟨λj f=>N▸H▸(h.1 (iZ v.1+j+1)).1 j Aa,λi V=>H▸(h.1 0).2 i Aa,λi V=>H▸(h.1 0).3 i Aa,K,c,y,O,Q⟩,h.2,N▸h.3,d,e⟩
end
def ZT.sides{D F g a b t}(h:ZT D F Q S g n t v b R U)(E:Jd D.KA g a)(N:Adk D.ty D.L.Wg D.L.Ch a):∃L,Dd g a L/\∀e∈L,Hm D.L.Wg e.loc∨e.loc=.obj D.L.Ch:=by
 obtain⟨⟨x,w,m⟩,W,B,y,j⟩:=N;obtain⟨H,u,G⟩:=h.6;obtain⟨s,r,d,M⟩:=h.7;rw[Ev,NF]at G m;have I:∀i≠D.L.3,i≠D.L.4->i<iZ g.1->a.1[i]?=g.1[i]?:=λi C J V=>by have e:g.1[i]?=je g.1[i]:=aN V;rw[e];exact E.5 i _ e ⟨C,J⟩
 refine⟨#[⟨.cell (iQ D.L.3),jz,jz⟩,⟨.cell (iR D.L.3 1),jz,jz⟩,⟨.obj D.L.4,jz,jz⟩],⟨E.4,λc K z=>?_,λi o O f z=>?_,λi k e A V=>?_,λi o O f=>?_,E.1,E.2,E.3⟩,λe Z=>?_⟩;by_cases C:c.1=D.L.3;obtain⟨p,o,l⟩:=c;simp only at C;subst C;cases l with|some q=>simp[yg,G,m]|none=>(have J:2<=o:=by obtain _|_|o:=o;exact absurd iW (z ⟨.cell (iQ D.L.3),jz,jz⟩ Ae iW);exact absurd iW (z ⟨.cell (iR D.L.3 1),jz,jz⟩ Ae iW);omega);rw[Cm m o,Cm G o,cW (by simpa using J),cW (by simpa using J)]
 by_cases J:c.1=D.L.4;unfold yg;rw[J,M,j];unfold yg;rw[I _ C J K];have C:i≠D.L.3:=λe=>by subst e;rw[G]at O;exact f _ _ _ (aC O).symm
 have J:i≠D.L.4:=λe=>by subst e;exact z ⟨.obj D.L.4,jz,jz⟩ Ae iW iW
 exact E.5 i o O ⟨C,J⟩;by_cases C:i=D.L.3;subst C;rw[G]at V;simp at V;obtain⟨rfl,rfl,rfl⟩:=V;exact⟨_,m,Ae⟩;have J:i≠D.L.4:=λe=>by subst e;rw[M]at V;cases V
 exact⟨k,E.5 i _ V ⟨C,J⟩,iW⟩;by_cases J:i=D.L.4;subst J;have e:o=.chan 0 #[] jz s r d:=aC (O.symm.trans M);exact⟨_,j,λ_ _ _ e=>M2,by rw[e];rfl⟩;exact⟨o,E.5 i o O ⟨(λe=>by subst e;rw[G]at O;exact f _ _ _ (aC O).symm),J⟩,f,iW⟩;simp at Z;obtain rfl|rfl|rfl:=Z;exact zk ⟨_,iW,iW⟩;exact zk ⟨_,iW,iW⟩;exact qx iW
def ZT.last{D}(O:D.Ok){F r B a o}(h:ZT D F Q S r n o v a R U)(E:Jd D.KA r B)(N:Adk D.ty D.L.Wg D.L.Ch B):∃u b,ZT D F Q S B u o (v.at B.drawn) b R (U.at B.drawn)/\Bt u o=Bt n o:=by have ⟨L,f,I⟩:=h.sides E N;have ⟨u,b,J,G,_⟩:=h.1.change O f I;exact⟨u,b,⟨J,h.2,h.3,F.3 _ _ _ h.4,F.4 _ _ _ h.5,N.1,N.2⟩,G⟩
def Ends.forkE{p:iH}(s:g.status=.running)(h:∀n k,0<k->∃(D:Nu)(F:Xo D)(Q:iH)(a b:gy),D.P=P/\D.L.k=k/\D.L.Shun=p/\D.Ok/\stepG P jz g (w.at n)=.spawn a b (w.at n) #[] /\
   (∀t,D.L.TI Q t (w.at n) 0 0->∃d,JD D F d a b (w.at n) t) /\
   ∀Q S n o v c R U B,ZT D F Q S B n o v c R U->o.status=.running->Ends P Y (λl=>p l∨Hm D.L.Wg l) 0 (Bt n o) B):=Ends.forkD s λn k E=>by obtain⟨D,F,Q,a,b,C,J,T,q,z,f,M⟩:=h n k E;refine⟨D,F,Q,a,b,C,J,T,q,z,f,λQ S x n o v c R U B e i j G=>?_⟩;obtain⟨u,m,N,r⟩:=e.last q i j;rw[←r];exact M Q S u o _ m R _ B N G
section
variable {J Own:iH}
def Dp.reveal(a:Dp P n J Own m v h){i off}{c:iJ}{e b}(Y:v.1[i]?=je (pf c e b))(O:off<c.size){x}(Z:A2 (.up v.1.size) x=x)(A:h.cell? ⟨sh n i,off,zt⟩=je (A2 n x)):Dp P n (λl=>J l/\l≠.cell (iR i off)) (λl=>Own l∨l=.cell ⟨sh n i,off,zt⟩) m (v.setCell (iR i off) x) h:=by
 have V:=(aJ.1 Y).1;have N:(v.setCell (iR i off) x).1.size=iZ v.1:=size_setCell _ _ _;have o:∀j q,(v.setCell (iR i off) x).1[j]?=je q->(j=i/\q=pf (c.setIfInBounds off x) e b)∨(j≠i/\v.1[j]?=je q):=λj q k=>by rw[heap_setCell]at k;grind
 have row:∀f(I:Obj),LikeO f J i (pf c e b) I->(∀B,I=pf B e b->B[off]?=je (A2 f x))->LikeO f (λl=>J l/\l≠.cell (iR i off)) i (pf (c.setIfInBounds off x) e b) I:=λf I K M=>by (have w:∀B,I=pf B e b->B.size=c.size->(∀j,¬J (.cell (iR i j))->B[j]?=(c[j]?).map (A2 f))->LikeO f (λl=>J l/\l≠.cell (iR i off)) i (pf (c.setIfInBounds off x) e b) I:=λB S L G=>by refine qx (zk ⟨_,B,e,b,iW,S,by simpa using L,λj k=>?_⟩);by_cases ej:off=j;grind;grind);obtain rfl|⟨s,B,E,H,C,g,T,p⟩|⟨_,C,_⟩|⟨B,E,H,C,g⟩:=K;exact w _ iW Ae λj _=>aM ..;grind;exact absurd iW (C _ _ _);grind
 have r:∀f(j:Nat)q I,j≠i->LikeO f J j q I->LikeO f (λl=>J l/\l≠.cell (iR i off)) j q I:=λf j q I k K=>by obtain C|⟨s,B,E,H,C,g,T,p⟩|⟨u,C,g⟩|C:=K;exact zk C;refine qx (zk ⟨s,B,E,H,C,g,T,λd Q=>p d λW=>Q ⟨W,λe=>k ?_⟩⟩);injection e with e;injection e with e _ _;exact qx (qx (zk ⟨⟨⟨u.1,Ae⟩,u.2⟩,C,g⟩));exact qx (qx (qx C))
 refine a.recast N (aA _) (a.1 0).5 (a.1 0).6 (a.1 0).7 (a.1 0).8 iW (λj q k=>?_) ⟨λj q k=>?_,N▸a.4.2⟩ λl K k=>?_;obtain⟨rfl,rfl⟩|⟨C,g⟩:=o j q k;obtain⟨I,T,p⟩:=(a.1 0).4 _ _ Y;refine⟨I,T,row n I p λB S=>?_⟩;subst S;rwa[←Cm T off];obtain⟨I,T,p⟩:=(a.1 0).4 _ _ g;exact⟨I,T,r n j q I C p⟩;rw[N];obtain⟨rfl,rfl⟩|⟨C,g⟩:=o j q k;obtain d|⟨s,B,E,H,F,z,q3,X⟩|⟨_,d,_⟩|⟨B,E,H,F,z⟩:=a.4.1 _ _ Y;refine qx (zk ⟨_,_,e,b,iW,iW,iW,λy U=>?_⟩);simp only[Dr]at d;injection d with d _ _;by_cases D:off=y;subst D;simp[O,Z];rw[aE D];conv=>lhs;rw[d]
 exact aM ..;cases F;cases z;refine qx (zk ⟨_,_,e,b,iW,iW,iW,λy U=>?_⟩);by_cases D:off=y;subst D;simp[O,Z];rw[aE D];refine X y λW=>U ⟨W,λd=>D ?_⟩;injection d with d;injection d with _ d _;exact d.symm;exact absurd iW (d _ _ _);injection F with d _ _;subst d;simp at O;exact r _ j q q C (a.4.1 j q g);by_cases R:l=.cell (iR i off);subst R;exact qx iW;refine zk (a.5 l ?_ λW=>k ⟨W,R⟩);have:=Vb (v:=v) (v':=v.setCell (iR i off) x) (G9 v (iR i off) x jz) K;obtain y|y:=this;exact y;exfalso;cases l with|cell t=>obtain⟨d,Q⟩:=K;have:=Lb Q;rw[N]at this;have:iZ v.1<=t.1:=y;omega|obj t=>obtain⟨d,Q,_⟩:=K;have:=(aJ.1 Q).1;rw[N]at this;have:iZ v.1<=t:=y;omega|_=>exact K.elim
end
section
variable {J Own:iH}
def Dp.unblank(a:Dp P n J Own m v h){e d}(Y:v.1[i]?=je (pf #[] e d)){c:iJ}(Z:c.map (A2 (.up v.1.size))=c)(W:h.1[sh n i]?=je (pf (c.map (A2 n)) e d)):Dp P n J (λl=>Own l∨Nx (sh n i) l) m { v with heap:=v.1.setIfInBounds i (pf c e d) } h:=by have N:({ v with heap:=v.1.setIfInBounds i (pf c e d) }:qi).1.size=iZ v.1:=Ae;(have o:∀j q,({ v with heap:=v.1.setIfInBounds i (pf c e d) }:qi).1[j]?=je q->(j=i/\q=pf c e d)∨(j≠i/\v.1[j]?=je q):=λj q k=>by grind);refine a.recast N (aA _) (a.1 0).5 (a.1 0).6 (a.1 0).7 (a.1 0).8 iW (λj q k=>?_) ⟨λj q k=>?_,N▸a.4.2⟩ λl K k=>?_;obtain⟨rfl,rfl⟩|⟨C,g⟩:=o j q k;exact⟨_,W,zk iW⟩;exact(a.1 0).4 _ _ g;rw[N];obtain⟨rfl,rfl⟩|⟨C,g⟩:=o j q k;exact zk (by simp[Dr];rw[Z]);exact a.4.1 j q g;cases l with|cell b=>by_cases R:b.1=i;exact qx (by show sh n b.1=sh n i;rw[R]);refine zk (a.5 _ ?_ k);have ⟨x,Z⟩:=K;refine⟨x,?_⟩;rw[yg]at Z⊢;grind|obj r=>have ⟨q,O,M⟩:=K;obtain⟨rfl,rfl⟩|⟨_,g⟩:=o r q O;exact absurd iW (M _ _ _);exact zk (a.5 (.obj r) ⟨q,g,M⟩ k)|_=>exact K.elim
end
def LikeO.monoJ{J U I}(W:∀l,J l->U l)(h:LikeO n J i o I):LikeO n U i o I:=by obtain h|⟨c,B,e,b,C,a,T,q⟩|⟨F,C,a⟩|h:=h;exact zk h;exact qx (zk ⟨c,B,e,b,C,a,T,λj d=>q j λx=>d (W _ x)⟩);exact qx (qx (zk ⟨⟨W _ F.1,F.2⟩,C,a⟩));exact qx (qx (qx h))
def Dp.less{J J' a Own' g'}(h:Dp P n J a g v w)(W:∀l,J l->J' l)(G:Bt (.up v.1.size) g'=g')(H:∀l,Jf v l->¬J' l->a (Ha n l)->Own' (Ha n l)):Dp P n J' Own' g' v w:=
 ⟨λt=>let s:=h.sm t;⟨s.top,s.lt,s.out,λi o O=>let⟨I,C,d⟩:=s.4 i o O;⟨I,C,d.monoJ W⟩,s.tape,s.drawn,s.os,s.output⟩,h.fix,h.glob,⟨λi o O=>(h.wf.mem i o O).monoJ W,G⟩,λl K c=>H l K c (h.own l K λx=>c (W l x))⟩
def JD.start{D F ms n n' g g' v v' mA mB}(f:D.low<=iZ w.1)(B:∀l,Q l->Qs w.1.size l)(e:Dp D.P n D.JA (D.L.A Q) g v w)(d:Dp D.P n' D.JB (D.L.B Q) g' v' w)(c:Fw D.P jz D.JA (ScA D ms) g v)(I:Fw D.P vy D.JB (ScB D ms λ_=>False) g' v')(N:iZ v.1=D.8)(L:iZ v'.1=D.9)(k:∀i<D.8,sh n i=D.fA i)(m:∀i<D.9,sh n' i=D.fB i)(p:D.L.RoR D.w0 w)(M:D.4<D.8/\sh n D.4=D.L.Ch)(G:D.5<D.8/\sh n D.5=D.L.Wg)(h:D.6<D.9/\sh n' D.6=D.L.Ch)(o:D.7<D.9/\sh n' D.7=D.L.Wg)(z:∃s j,w.1[D.L.Ch]?=je (.chan 0 #[] vy s s j))(q:Ev D.ty D.L.Wg w KK 0)(y:gz D.P jz D.L.RoR D.L.DRo (λx _=>x=Bt n g/\g.status=.running) mA a w)(A:gz D.P vy D.L.RoR D.L.DRo (λx _=>x=Bt n' g'/\g'.status=.running) mB b w):∀t,D.L.TI Q t w 0 0->∃r,JD D F r a b w t:=λt C=>by have ⟨E,c⟩:=c;have ⟨u,I⟩:=I;exact⟨_,qx (qx ⟨ms,E,u,mA+2,mB+2,iW,Q,λ_=>False,n,g,v,n',g',v',⟨⟨f,B,e,d,⟨Aa,M.2⟩,⟨Aa,h.2⟩,⟨Aa,G.2⟩,⟨Aa,o.2⟩,Aa,⟨Aa,k,m,p⟩,λi H _ K J _=>Aa,λH K J=>Aa⟩,c,I,C,z,q⟩,qx (qx ⟨mA,iW,y⟩),qx (qx ⟨mB,iW,A⟩),Aa⟩)⟩
def EN.fork{Y J}(s:g.status=.running)(h:∀n(w:qi)(p:iH)k d,0<k->Dp P n J (Y.Own p) g (v.at d) w->Y.Shd w p n->∃(D:Nu)(F:Xo D)(Q:iH)(a b:gy),D.P=P/\D.L.k=k/\D.L.Shun=p/\D.Ok/\stepG P jz (Bt n g) w=.spawn a b w #[] /\
   (∀t,D.L.TI Q t w 0 0->∃c,JD D F c a b w t) /\
   ∀Q S n o v e R U B,ZT D F Q S B n o v e R U->o.status=.running->Ends P Y.post (λl=>p l∨Hm D.L.Wg l) 0 (Bt n o) B):EN P Y J g v:=λn w p f H=>
 Ends.forkE s λd k E=>h n _ p k d E (f.at d) (H.at d)
structure KN(P J)(t:Ren->Sem Next)(v x v'):Prop where
 plain:Plain v->Plain v'
 frame:Plain v->∃es,Dd v v' es/\∀e∈es,Ig v' e/\Gp J e
 all:Plain v->∀n(t0:Nat)w,n.Fix P.globals.size->iZ v'.1<=t0->Sm n t0 J v w->∃(w':qi)(y:Next)(fs:Array Event),(t n).run P w=.ok y w'/\(y=.value (A2 n x)∨(y=.skip/\x=re))/\Sm n t0 J v' w'/\Dd w w' (fs.map (Lr n))/\(∀e∈fs,Ig v' e/\Gp J e)/\∀e∈(t n).events P w #[],e∈fs.map (Lr n)
def Gq(a:Act)(o:xe)(n:O):Sem Next:=execOp (B9 n a).eval o
section
variable {main:Bool} {J:iH} {Q:Exit->Act->qi->Prop} {a:Act} {S:Env} {g:Array xe} {l:iO} {o:xe}
def MF(h:opsV P main J N fn g l Q a w)(d):opsV P main J N fn g l Q a (w.at d):=λb k z D E M=>EV.at (h b k z D E M) d
def Bu{c}(h:Kk P main J N fn c Q a w)(d):Kk P main J N fn c Q a (w.at d):=λb k z D E M=>EV.at (h b k z D E M) d
def Aae{b}(h:Ba P main J N f b w Y)(d):Ba P main J N f b (w.at d) Y:=by have ⟨fn,c,C,a,T,q⟩:=h;exact⟨fn,c,C,a,T,λX cs L z=>EV.at (q X cs L z) d⟩
def Bf{b E}(h:Ba P main J N f b w Y)(H:∀x B,Y x B->E x B):Ba P main J N f b w E:=by have ⟨fn,c,C,a,T,q⟩:=h;exact⟨fn,c,C,a,T,λX cs L z=>q X cs L λv B Q=>z v B (H v B Q)⟩
def Ub{b:Frame}{k cs}{rest:iO}{B}(O:g[i]?=je o)(W:Region.wanted o (yw g a.tmps)=jz)(E:b.kind≠.early)(Y:(execOp a.eval o).run P w=.ok .skip B):stepG P main (G (b.at a (.inRegion g (i::rest)::k)) cs) w=.go (G (b.at (a.put o.dst re) (.inRegion g rest::k)) cs) B (listed P b.fn a o w):=by
 have Q:(b.at a (.inRegion g (i::rest)::k)).finish re=b.at (a.put o.1 re) (.inRegion g rest::k):=by rw[Frame.finish_at,O];rfl
 rw[stepG_oper O W,←Q];simp[stepG.apply,Y,G,(by simpa using E),GStep.after,listed,Frame.at]
def Rx(O:g[i]?=je o)(A:Region.wanted o (yw g a.tmps)=jz)(H:∀e,∃x U,KN P J (Gq a o) (w.at e) x U/\opsV P main J N fn g l Q (a.put o.dst x) U):opsV P main J N fn g (i::l) Q a w:=by
 intro b k z D E v;have K:b.6≠.early:=by rw[E];decide
 refine EV.step iW λm e=>?_;obtain⟨x,U,Y,F⟩:=H e;have j:Plain (w.at e):=m;refine⟨G (b.at (a.put o.1 x) (.inRegion g l::k)) z,U,⟨iW,Y.1 j,Y.2 j,λn t W p R s=>?_⟩,F b k z D E v⟩;obtain⟨f,y,L,C,h,T,q,c,r⟩:=Y.3 j n t W p R s;have B:Region.wanted o (yw g (B9 n a).1)=jz:=by exact T5f
 exact Uq4
def Sb(V:Pl P S fn o)(j:S.reg fn a.tmps)(d:Yields P (execOp a.eval o) v x U)(N:∀e∈(execOp a.eval o).events P v #[],Gp J e):KN P J (Gq a o) v x U:=by
 have r:∀b:Act,((default:Frame).at b []).eval=b.eval:=λb=>funext λy=>Frame.eval_at (default:Frame) b [] y;have c:∀n:O,n.Fix P.globals.size->Rf P n (Ls n) (execOp a.eval o) (Gq a o n):=λn p=>by have:=V.1 n ((default:Frame).at a []) p j;rwa[Hv,cM,r,r]at this
 obtain⟨l,F⟩:=Ua;have f:∃y,(y=.value x∨(y=.skip/\x=re))/\(execOp a.eval o).run P v=.ok y U:=by obtain d|⟨d,rfl⟩:=d;grind;grind
 obtain⟨y,Z,Y⟩:=f;refine⟨λQ=>((c l (F _)).mono v y U Q Y).1,λQ=>?_,λQ n u w p R s=>?_⟩;obtain⟨_,i,k⟩:=(c l (F _)).mono v y U Q Y;grind;obtain⟨_,_,k⟩:=(c l (F _)).mono v y U Q Y;obtain⟨B,C,g,T,q⟩:=(c n p).sim J u v w s Q N y U Y R;exact⟨B,Ls n y,(execOp a.eval o).events P v #[],C,Jfl,T,by rwa[←g],λe h=>⟨k e h,N e h⟩,λe h=>by rwa[←g]⟩
def KN.over{t:Ren->Sem Next}{u O}(W:RowsIn Bs w)(d:De Bs w u)(S:Plain (Cf Bs w u)->Plain u)(Y:KN P J t u x O):KN P J t (Cf Bs w u) x (Cf Bs w O)/\(Plain u->De Bs w O):=by refine⟨⟨λQ=>?_,λQ=>?_,λQ n i y p R Z=>?_⟩,λQ=>let⟨_,c,_⟩:=Y.2 Q;d.frame c⟩;have ⟨X,c,_⟩:=Y.2 (S Q);exact Iy W (d.frame c) (Y.1 (S Q));have ⟨X,c,K⟩:=Y.2 (S Q);exact⟨X,Uu d c,λb N=>⟨(Lp (d.frame c) (K b N).1).2.2,(K b N).2⟩⟩;have ⟨X,c,_⟩:=Y.2 (S Q);have f:=d.frame c;rw[Bn]at R;have ⟨a,e,L,C,g,j,T,q,z⟩:=Y.3 (S Q) n i y p R (Z.hide d);exact⟨a,e,L,C,g,Z.show d f j T λb N=>(q b N).1,T,λb N=>⟨(Lp f (q b N).1).2.2,(q b N).2⟩,z⟩
def R9(Q:Plain w):Plain (Bb Bs w):=λi o O=>by exact P8y
def Cz:(Bb Bs w).1.size=iZ w.1:=by rw[Bb];simp
def EL(V:Pl P S fn o)(j:S.reg fn a.tmps)(W:RowsIn Bs w)(D:Lf J (Bb Bs w))(K:Qw J w.1.size){R:iP}(H:∀L,Twin (Bb Bs w) L->∃x p,Yields P (execOp a.eval o) L x p/\R x p)(d)(Q:Plain w):∃x u,KN P J (Gq a o) (w.at d) x (Cf Bs w u)/\De Bs w u/\u.tape=w.tape/\R x u:=by
 obtain⟨x,u,U,c⟩:=H ((Bb Bs w).at d) ⟨iW,iW,iW⟩;have q:Plain ((Bb Bs w).at d):=R9 Q;have r:∀b:Act,((default:Frame).at b []).eval=b.eval:=λb=>funext λy=>Frame.eval_at (default:Frame) b [] y;obtain⟨l,F⟩:=Ua;have m:Rf P l (Ls l) (execOp a.eval o) (Gq a o l):=by have:=V.1 l ((default:Frame).at a []) (F _) j;rwa[Hv,cM,r,r]at this
 have n:∃y,(execOp a.eval o).run P ((Bb Bs w).at d)=.ok y u:=by obtain U|⟨U,rfl⟩:=U;exact⟨_,U⟩;exact⟨_,U⟩
 obtain⟨y,Y⟩:=n;obtain⟨i,f,k⟩:=m.mono _ y u q Y;have z:Lf J ((Bb Bs w).at d):=D;have g:Qw J ((Bb Bs w).at d).1.size:=by have:((Bb Bs w).at d).1.size=iZ w.1:=Cz;rwa[this]
 have t:∀e∈(execOp a.eval o).events P ((Bb Bs w).at d) #[],Gp J e:=λe N=>z.frame g f e (k e N);have s:Cf Bs w ((Bb Bs w).at d)=w.at d:=by have:=Jq W;have v:Cf Bs w ((Bb Bs w).at d)=(Cf Bs w (Bb Bs w)).at d:=iW;rw[v,this]
 have:=KN.over W ((Gs W).at d) (λ_=>q) (Sb (J:=J) V j U t);rw[s]at this;exact⟨x,u,this.1,this.2 q,f.6,c⟩
def Abs(O:g[i]?=je o)(v:Region.wanted o (yw g a.tmps)=jz)(V:Pl P S fn o)(j:S.reg fn a.tmps)(W:RowsIn Bs w)(D:Lf J (Bb Bs w))(K:Qw J w.1.size){R:iP}(H:∀L,Twin (Bb Bs w) L->∃x p,Yields P (execOp a.eval o) L x p/\R x p)(F:∀x u,De Bs w u->u.tape=w.tape->R x u->opsV P main J N fn g l Q (a.put o.dst x) (Cf Bs w u)):opsV P main J N fn g (i::l) Q a w:=λb k z c E M e=>
 Rx O v (λd=>let⟨x,u,C,f,T,q⟩:=EL V j W D K H d e;⟨x,_,C,F x u f T q⟩) b k z c E M e
def Ahg(Y:∀n w,n.Fix P.globals.size->(Gq a o n).run P w=.ok (.value (A2 n x)) w)(N:∀n w,(Gq a o n).events P w #[]=#[]):KN P J (Gq a o) v x v:=⟨id,λ_=>⟨#[],.refl _ _,Ae⟩,λQ n u w p R s=>⟨w,_,#[],Y n w p,zk iW,s,.refl _ _,Ae,by simp[N n w]⟩⟩
def Te(V:Pl P S fn o)(j:S.reg fn a.tmps)(Y:∀w,(execOp a.eval o).run P w=.ok (.value x) w)(N:∀w,(execOp a.eval o).events P w #[]=#[]):KN P J (Gq a o) v x v:=Sb V j (zk (Y v)) (by rw[N];simp)
def Gm{x}(O:g[i]?=je o)(W:Region.wanted o (yw g a.tmps)=jz)(V:Pl P S fn o)(j:S.reg fn a.tmps)(Y:∀w,(execOp a.eval o).run P w=.ok (.value x) w)(b:∀w,(execOp a.eval o).events P w #[]=#[])(h:opsV P main J N fn g l Q (a.put o.dst x) w):=
 Rx O W λd=>⟨x,w.at d,Te V j Y b,MF h d⟩
def Dq{x v'}(O:g[i]?=je o)(W:Region.wanted o (yw g a.tmps)=jz)(V:Pl P S fn o)(j:S.reg fn a.tmps)(Y:∀d,Yields P (execOp a.eval o) (w.at d) x (v'.at d))(b:∀d,∀e∈(execOp a.eval o).events P (w.at d) #[],Gp J e)(h:opsV P main J N fn g l Q (a.put o.dst x) v'):=
 Rx O W λd=>⟨x,v'.at d,Sb V j (Y d) (b d),MF h d⟩
end
section
variable {J:iH} {Q:Exit->Act->qi->Prop} {a:Act} {S:Env} {g:Array xe}
inductive GN(P e J)(N:gy->qi->Prop)(g)(i:Nat)(K:Act->qi->Prop)(a:Act)(w):Prop
 |unwanted (o:xe) (ho:g[i]?=je o) (hw:Region.wanted o (yw g a.tmps)=vy) (h:K (a.put o.dst re) w)
 |op (o:xe) (ho:g[i]?=je o) (hw:Region.wanted o (yw g a.tmps)=jz) (h:Plain w->∀d,∃x v',KN P J (Gq a o) (w.at d) x v'/\K (a.put o.dst x) v')
 |call (o:xe) (f) (args) (ats) (Post) (ho:g[i]?=je o) (hw:Region.wanted o (yw g a.tmps)=jz) (hop:o.op=.call { callee:=.value (.func f),args:=args,argTypes:=ats }) (hk:args.all (E4 P.globals.size)=jz)
   (hc:Ba P e J N f (args.map a.eval) w Post) (h:∀x w',Post x w'->K (a.put o.dst x) w')
def GN.mono{K F:Act->qi->Prop}(b:∀a w,K a w->F a w)(h:GN P e J N g i K a w):GN P e J N g i F a w:=by cases h with|unwanted o O W h=>exact .unwanted o O W (b _ _ h)|op o O W h=>exact .op o O W λQ d=>let⟨x,U,C,c⟩:=h Q d;⟨x,U,C,b _ _ c⟩|call o f j m Y O W T E M h=>exact .call o f j m Y O W T E M λx B p=>b _ _ (h x B p)
def Abt{l o}(O:g[i]?=je o)(W:Region.wanted o (yw g a.tmps)=jz)(H:Plain w->∀d,∃x U,KN P J (Gq a o) (w.at d) x U/\opsV P e J N f g l Q (a.put o.dst x) U):opsV P e J N f g (i::l) Q a w:=
 λb k z D E M c=>Rx O W (H c) b k z D E M c
def GN.goesOn{l}(h:GN P e J N g i (λb B=>opsV P e J N f g l Q b B) a w):opsV P e J N f g (i::l) Q a w:=by cases h with|unwanted o O W h=>exact Be O W h|op o O W h=>exact Abt O W h|call o c d m Y O W T E M h=>exact IU O W T M h E
def A7(P:jd)(e:Bool)(J:iH)(N:gy->qi->Prop)(md:Region.Mode)(g:Array xe)(Q:Exit->Act->qi->Prop)(I:iI):Nat->Array Bool->Act->qi->Prop
 |0,done,a,w=>Region.ready md g done = []/\Q .normal a w
 |fuel+1,done,a,w=>(Region.ready md g done = []->Q .normal a w)/\∀i∈Region.ready md g done,GN P e J N g i (λa' w'=>I w'/\A7 P e J N md g Q I fuel (done.setIfInBounds i jz) a' w') a w
def A7.sound{M I}:∀c t(b:Array Bool)a(w:qi),A7 P e J N M g Q I c b a w->opsV P e J N f g (Region.linearise.go M g c t b []) Q a w:=by intro c;induction c with|zero=>intro t b a w h;simpa[Region.linearise.go] using Au h.2|succ c O=>intro t b a w h;have ⟨d,U⟩:=h;change opsV P e J N f g (match (Region.ready M g b)[t % (Region.ready M g b).length]? with|some i=>Region.linearise.go M g c (t / (Region.ready M g b).length) (b.setIfInBounds i jz) [i]|none=>[].reverse) Q a w;cases V:(Region.ready M g b)[t % (Region.ready M g b).length]? with|none=>(have D:Region.ready M g b = []:=by cases Y:Region.ready M g b with|nil=>rfl|cons x X=>rw[Y,fU]at V;exact absurd (Nat.mod_lt t (by simp:(x::X).length > 0)) Aa);simpa using Au (d D)|some i=>simp[];rw[linearise_go_acc,List.reverse_singleton,List.singleton_append];exact GN.goesOn ((U i (aS V)).mono λl B x=>O _ _ l B x.2)
def Es{b I}(L:P.follows .mixedOrders=jz)(h:∀d,A7 P e J N .any g Q I g.size (o2 g.size vy) a (w.at d)):Kk P e J N f (.region b g jz) Q a w:=by intro c k z D E M;refine EV.step iW λi d=>⟨G (c.at a (.inRegion g (Region.schedule (P.follows .mixedOrders) g (w.2 d (.order c.1 b)))::k)) z,{ w.at d with drawn:=d+1 },EW rfl (show Plain (w.at d) from i) λn u p R y=>?_,?_⟩;rw[E6,Hv,E6,Hv];have j:u.2=w.2:=R;have s:u.3=d:=y;simp[G,stepG,stepG.exec,Frame.at,choose,Sem.run,Question.forced,Question.cut,j,s,Dh];simp[Region.schedule,L,Bool.true_or,bV];exact A7.sound g.size _ _ a _ (h (d+1)) c k z D E M
def YV(P:jd)(J:iH)(g:Array xe)(I:iI)(oi:xe)(x:p8)(a:Act):Prop:=
 (Region.wanted oi (yw g a.tmps)=vy->x=re)/\(Region.wanted oi (yw g a.tmps)=jz->∀w,I w->KN P J (Gq a oi) w x w)
variable {I:iI} {M:Region.Mode}
def GN.at{K:Act->qi->Prop}(p:∀a w d,K a w->K a (w.at d))(h:GN P e J N g i K a w)(d):GN P e J N g i K a (w.at d):=by cases h with|unwanted o O W h=>exact .unwanted o O W (p _ _ d h)|op o O W h=>exact .op o O W h|call o f b m Y O W T E M h=>exact .call o f b m Y O W T E (Aae M d) h
def A7.at(o:∀w d,I w->I (w.at d))(b:∀a w d,Q .normal a w->Q .normal a (w.at d)):∀c(f:Array Bool)a(w:qi)d,A7 P e J N M g Q I c f a w->A7 P e J N M g Q I c f a (w.at d)
 |0,_,_,_,d,h=>⟨h.1,b _ _ d h.2⟩
 |c+1,_,_,_,d,h=>⟨λi=>b _ _ d (h.1 i),λj V=>(h.2 j V).at (λa w d k=>⟨o _ d k.1,A7.at o b c _ a w d k.2⟩) d⟩
def YV.opV{G}{K:Act->qi->Prop}(o:∀w d,I w->I (w.at d))(p:∀a w d,K a w->K a (w.at d))(V:g[i]?=je G)(U:YV P J g I G x a)(W:I w)(h:K (a.put G.dst x) w):GN P e J N g i K a w:=by cases v:Region.wanted G _ with|false=>exact .unwanted G V v (by rwa[U.1 v]at h)|true=>exact .op G V v λ_ d=>⟨x,w.at d,U.2 v _ (o _ d W),p _ _ d h⟩
def JO(o)(s:∀cs b,o.op≠.select cs b)(a d y)(h:∀t,d=je t->¬t∈Oper.looksAt g o):Gq (a.put d y) o=Gq a o:=by funext n;rw[Gq,←Og];exact execOp_put o s _ d _ h
def GN.putIf{j G L}(l:g[j]?=je L)(H:G.apart g L=jz)(m:∀cs b,G.op≠.select cs b)(n:∀cs b,L.op≠.select cs b){K:Act->qi->Prop}(U:YV P J g I G x a)(h:GN P e J N g j K (a.put G.dst x) w):GN P e J N g j (λk B=>YV P J g I G x k/\K (k.put G.dst x) B) a w:=by obtain⟨X,c,i⟩:=Oper.apart_spec H;(have d:∀y,YV P J g I G x (a.put L.1 y):=λy=>by refine⟨λf=>U.1 (by rwa[ru G a L.1 y i]at f),λf w W=>?_⟩;rw[JO G m a L.1 y i];exact U.2 (by rwa[ru G a L.1 y i]at f) w W);cases h with|unwanted o O W h=>obtain rfl:L=o:=aC (l.symm.trans O);rw[ru L a G.1 x X]at W;exact .unwanted L O W ⟨d _,by rwa[←o3 a x re c]⟩|op o O W h=>obtain rfl:L=o:=aC (l.symm.trans O);rw[ru L a G.1 x X]at W;rw[JO L n a G.1 x X]at h;exact .op L O W λQ p=>let⟨y,q,C,v⟩:=h Q p;⟨y,q,C,d _,by rwa[←o3 a x y c]⟩|call o r s t Y O W T E M h=>obtain rfl:L=o:=aC (l.symm.trans O);rw[ru L a G.1 x X]at W;rw[FQ T X]at M;exact .call L r s t Y O W T E M λy B u=>⟨d _,o3 a x y c▸h y B u⟩
def A7.first(u:∀w d,I w->I (w.at d))(z:∀a w d,Q .normal a w->Q .normal a (w.at d)){G}(V:g[i]?=je G)(m:∀(j:Nat) o cs f,g[j]?=je o->o.op≠.select cs f):∀r(b:Array Bool)a(w:qi),
   (∀j L,g[j]?=je L->j≠i->b.getD j jz=vy->(∀c∈L.after,Region.binds M c=jz->c.on≠i)->G.apart g L=jz) ->
   i∈Region.ready M g b->YV P J g I G x a->I w->A7 P e J N M g Q I r (b.setIfInBounds i jz) (a.put G.dst x) w->A7 P e J N M g Q I (r+1) b a w:=by have p:∀r b,∀a w d,(I w/\A7 P e J N M g Q I r b a w)->(I (w.at d)/\A7 P e J N M g Q I r b a (w.at d)):=λr b a w d h=>⟨u _ d h.1,A7.at u z r b a w d h.2⟩;intro r;induction r with|zero=>intro b a w _ Y U s H;refine⟨λh=>Aj,λj l=>?_⟩;by_cases R:j=i;subst R;exact U.opV u (p _ _) V s ⟨s,H⟩;have:=ready_mono l R;rw[H.1]at this;cases this|succ r A=>intro b a w n Y U s H;refine⟨λh=>(by rw[h]at Y;cases Y),λj l=>?_⟩;by_cases R:j=i;subst R;exact U.opV u (p _ _) V s ⟨s,H⟩;have C:=H.2 j (ready_mono l R);obtain⟨q,L,k,K⟩:=mem_ready.1 l;(have Z:∀c∈L.5,Region.binds M c=jz->c.1≠i:=λc E D O=>by have C:=K c E D;have F:=(mem_ready.1 Y).1;rw[O]at C;obtain v|v:=gT i b.size;simp[v]at F C;rw[F]at C;cases C;simp[cW v]at C);refine(GN.putIf k (n j L k R q Z) (λcs f=>m i G cs f V) (λcs f=>m j L cs f k) U C).mono λS W T=>⟨T.2.1,A (b.setIfInBounds j jz) S W (λt B X a1 a6 a7=>n t B X a1 ?_ a7) (ready_mono Y (dH R)) T.1 T.2.1 ?_⟩;by_cases y:j=t;subst y;exact q;rwa[getD_set_ne jz y]at a6;rw[Array.setIfInBounds_comm _ _ R];exact T.2.2
def A7.take(o:∀w f,I w->I (w.at f))(b:∀a w f,Q .normal a w->Q .normal a (w.at f)){i G x d c}(V:g[i]?=je G)(s:Region.noSelect g=jz)(h:Region.free M g c i=jz)(Y:(Region.ready M g c).contains i=jz)(U:YV P J g I G x a)(H:I w)(j:A7 P e J N M g Q I d (c.setIfInBounds i jz) (a.put G.dst x) w):=A7.first o b V (Region.noSelect_spec s) d c a w (Region.free_spec V h) (by simpa using Y) U H j
def A7.only{i c b}(Y:Region.ready M g b = [i])(h:GN P e J N g i (λd B=>I B/\A7 P e J N M g Q I c (b.setIfInBounds i jz) d B) a w):A7 P e J N M g Q I (c+1) b a w:=
 ⟨λF=>Aj,λj l=>Aj⟩
def A7.all{b}(Y:Region.ready M g b = [])(h:Q .normal a w):∀c,A7 P e J N M g Q I c b a w
 |0=>⟨Y,h⟩
 |_+1=>⟨λ_=>h,λi V=>Aj⟩
end
section
variable {J:iH} {b c:Type}
def EV.sem{s}{f:O->b->c}{t:O->Sem c}(Y:m.status=.running)(h:∀n:O,n.Fix P.globals.size->Rf P n (f n) s (t n))(H:∀d,∃g U R,s.run P (v.at d)=.ok g U/\(∀a∈s.events P (v.at d) #[],Gp J a)/\R.status=.running/\(∀n(w B:qi),n.Fix P.globals.size->(t n).run P w=.ok (f n g) B->∃G,stepG P e (Bt n m) w=.go (Bt n R) B G/\∀a∈G,a∈(t n).events P w #[])/\EV P e J N R U):EV P e J N m v:=by refine EV.step Y λo d=>?_;have ⟨g,U,R,C,i,T,E,z⟩:=H d;have ⟨l,F⟩:=Ua;have j:Plain (v.at d):=o;have ⟨p,q,r⟩:=(h l (F _)).mono _ g U j C;refine⟨R,U,⟨T,p,⟨_,q,λa k=>⟨r a k,i a k⟩⟩,λn u w x y A=>?_⟩,z⟩;have ⟨B,M,I,D,K⟩:=(h n x).sim J u _ w A j i g U C y;grind
def Mb(l:Nat)(f:mf)(tmps:iJ)(todo:List jc):Frame:={ fn:=f,tmps,todo,defers:=[],mode:=.run,kind:=.normal,roundOf:=je l }
def Wv(l f a b):Bp n (Mb l f a b)=Mb (sh n l) f (a.map (A2 n)) (b.map (Dh n)):=iW
variable {l:Nat} {k:List jc}
def EV.ctlR{a q}(D:EV P e J N (G (Mb l f a q) cs) v)(h:∀n(cs:List Frame)w,n.Fix P.globals.size->stepG P e (G (Mb (sh n l) f (tmps.map (A2 n)) (k.map (Dh n))) cs) w=.go (G (Mb (sh n l) f (a.map (A2 n)) (q.map (Dh n))) cs) w):EV P e J N (G (Mb l f tmps k) cs) v:=
 EV.ctl D iW iW λn w p=>h n _ w p
def EK{a g}(D:EV P e J N (G (Mb l f tmps (.inRegion g (List.range g.size)::k)) cs) v):EV P e J N (G (Mb l f tmps (.code (.region a g vy)::k)) cs) v:=EV.ctlR D λn cs h _=>by simp[G,stepG,stepG.exec,Mb,Dh]
def Sa{g}(D:EV P e J N (G (Mb l f tmps k) cs) v):EV P e J N (G (Mb l f tmps (.inRegion g []::k)) cs) v:=EV.ctlR D λn cs h _=>by simp[G,stepG,stepG.exec,Mb,Dh]
def Acf{a c}(D:EV P e J N (G (Mb l f tmps (.code c::.inBlock a::k)) cs) v):EV P e J N (G (Mb l f tmps (.code (.block a c)::k)) cs) v:=EV.ctlR D λn cs h _=>by simp[G,stepG,stepG.exec,Mb,Dh]
def RM{a}(D:EV P e J N (G (Mb l f tmps k) cs) v):EV P e J N (G (Mb l f tmps (.inBlock a::k)) cs) v:=EV.ctlR D λn cs h _=>by simp[G,stepG,stepG.exec,Mb,Dh]
def rev(tmps:iJ):Act:={ tmps,defers:=[] }
def Ahf(b):(Mb l f tmps b).eval=(rev tmps).eval:=by funext x;cases x<;>rfl
def EV.ropR{g}{b:iO}{o}(O:g[i]?=je o)(W:Region.wanted o (yw g tmps)=jz)(y:∀c,o.op≠.defer c)(H:∀d,∃x U,KN P J (Gq (rev tmps) o) (v.at d) x U/\EV P e J N (G (Mb l f (Ia o.dst x tmps) (.inRegion g b::k)) cs) U):EV P e J N (G (Mb l f tmps (.inRegion g (i::b)::k)) cs) v:=by
 have a:∀l tmps k cs h,Region.wanted o (yw g tmps)=jz->stepG P e (G (Mb l f tmps (.inRegion g (i::b)::k)) cs) h=stepG.apply P jz (Mb l f tmps (.inRegion g (i::b)::k)) cs zt (execOp (rev tmps).eval o) h:=λl tmps k cs h W=>by have he:=Ahf (l:=l) (f:=f) (tmps:=tmps) (.inRegion g (i::b)::k);simp[Mb]at he;cases T:o.2<;>first|exact absurd T (y _)|simp[G,stepG,stepG.exec,stepG.oper,Frame.oper?,Mb,O,W,he,T]
 have I:∀l tmps k x,(Mb l f tmps (.inRegion g (i::b)::k)).finish x=Mb l f (Ia o.1 x tmps) (.inRegion g b::k):=λl tmps k x=>by unfold Frame.finish Mb Ia;grind
 have Z:∀n x,Ia o.1 (A2 n x) (tmps.map (A2 n))=(Ia o.1 x tmps).map (A2 n):=λn x=>by cases o.1 with|none=>rfl|some d=>exact Il _ _ _
 refine EV.step iW λz d=>?_;obtain⟨x,U,Y,F⟩:=H d;have j:Plain (v.at d):=z;refine⟨G (Mb l f (Ia o.1 x tmps) (.inRegion g b::k)) cs,U,⟨iW,Y.1 j,Y.2 j,λn t u p R hs=>?_⟩,F⟩;obtain⟨m,K,L,C,q,r,s,w,A⟩:=Y.3 j n t u p R hs;refine⟨m,seen P f ((Gq (rev tmps) o n).events P u #[]),L,?_,r,s,w,λB he=>A B (qq he)⟩;have D:Region.wanted o (yw g (tmps.map (A2 n)))=jz:=by rwa[Gi]
 have E:Gq (rev tmps) o n=execOp (rev (tmps.map (A2 n))).eval o:=iW;rw[E]at C⊢;rw[E6,Wv,E6,Wv,←Z,show yq (Dh n) (.inRegion g (i::b)::k)=.inRegion g (i::b)::k.map (Dh n) from iW,a _ _ _ _ _ D];have M:((Mb (sh n l) f (tmps.map (A2 n)) (.inRegion g (i::b)::k.map (Dh n))).6==yj)=vy:=iW;obtain rfl|⟨rfl,rfl⟩:=q;simp[stepG.apply,qg,C,bV,M,I];simp[GStep.after,G,Mb,Dh];simp[stepG.apply,qg,C,bV,M,I,E7];simp[GStep.after,G,Mb,Dh]
def Gn(v:qi)(l:Nat)(r:zz):Prop:=v.1[l]?=je (.loop r)
def Fq(v:qi)(l:Nat)(r:zz):qi:={ v with heap:=v.1.setIfInBounds l (.loop r) }
def MU(v l r):(Fq v l r).1.size=iZ v.1:=by simp[Fq]
def Akr(n:O)(r:zz):zz:={ r with tmps:=r.tmps.map (A2 n),defers:=sh n r.defers }
def MB(r):Cn (.loop r):=λ_ _ _ e=>M2
def Ka{a b H}{f:a->b}{k:zz->Sem a}{q:zz->Sem b}(l)(E:∀r,Df (λi=>H i∨i=l) P n f (k r) (q (Akr n r))):Df H P n f (im l >>= k) (im (sh n l) >>= q):=by rw[im];refine Rf.getObjThen l (λo _=>?_) (λo I O _=>by obtain⟨_,_,_,_,_,_,rfl⟩:=He O;exact Rf.never (Eh (Db iW trivial)));cases o with|loop r=>exact E r|_=>exact Rf.never (Eh (Db iW trivial))
def GA(l):Rf P n (Ls n) (do oj l;th Next.skip) (do oj (sh n l);th Next.skip):=by refine Rf.bind (f:=id) ?_ λ_=>Rf.pure iW;refine Ka l λr=>Rf.bind (Rf.setObj (o:=.loop { r with state:=.busy }) trivial (MB _) rfl l (qx rfl)) λ_=>?_;show Df _ P n id _ (match r.1 with|.ready=>_|.done=>_|.busy=>_|.exhausted=>_);cases r.1<;>first|exact Rf.pure iW|exact Rf.rt
def RD(l j):Rf P n (A2 n) (po l j) (po (sh n l) j):=by exact Ka l λr=>Rf.bind (Rf.setObj (o:=.loop { r with state:=if j.isNone then .ready else .done,pending:=j }) trivial (MB _) rfl l (qx rfl)) λ_=>Rf.pure Ae
def VV(l):Rf P n id (oy l) (oy (sh n l)):=by refine Ka l λr=>?_;show Df _ P n id _ (if r.1==.busy then _ else _);by_cases h:(r.1==.busy)=jz;simp[h,bV];exact Rf.never (Eh (J8 _));simp only[h,cB,aX];exact Rf.bind (Rf.setObj (o:=.loop { r with state:=.exhausted }) trivial (MB _) rfl l (qx rfl)) λ_=>Rf.pure rfl
def QY(n:O):Next->Next
 |.round l f tmps a b=>.round (sh n l) f (tmps.map (A2 n)) a b
 |x=>x
def Aaz(b:List (Tmp×p8))(a:iJ):(b.map λx=>(x.1,A2 n x.2)).foldl (λa (x:Tmp×p8)=>a.setIfInBounds x.1 x.2) (a.map (A2 n))=(b.foldl (λa (x:Tmp×p8)=>a.setIfInBounds x.1 x.2) a).map (A2 n):=by induction b generalizing a with|nil=>rfl|cons x b O=>simp only[bF,fR,Il,O]
def All(a:Array Tmp)(V:iJ):(a.zip (V.map (A2 n)))=(a.zip V).map λx=>(x.1,A2 n x.2):=by apply Array.ext';simp[Array.toList_zip,List.zip_map_right]
def Ahd(l)(V:iJ):Rf P n (QY n) (uh l V) (uh (sh n l) (V.map (A2 n))):=by refine Ka l λr=>?_;have C:(V.map (A2 n)).size=V.size:=Ae;rw[C];show Df _ P n _ _ (if V.size≠r.5.size then _ else _);by_cases h:V.size≠r.5.size;rw[aL h,aL h];exact Rf.never (Eh (Db iW trivial));rw[aO h,aO h];apply Rf.pure;congr 1;rw[All,←fX,←fX,bS];exact Aaz _ _
def AG(b):Rf P n (yq (Qh n)) (sw b) (sw (sh n b)):=by refine Rf.getObjThen b (λo _=>?_) (λo I O _=>by obtain⟨_,_,_,_,_,_,rfl⟩:=He O;exact Rf.stuck);cases o with|deferred R=>(cases R with|none=>exact Rf.stuck|some R=>exact Rf.bind (Rf.setObj (o:=.deferred zt) trivial (λ_ _ _ e=>M2) iW b (qx iW)) λ_=>Rf.pure iW)|_=>exact Rf.stuck
def JF(n:O)(x:Nat×List Deferred):Nat×List Deferred:=(sh n x.1,x.2.map (Qh n))
def MN(fn)(tmps:iJ)(a x y):Rf P n (JF n) (wi fn tmps a x y zt) (wi fn (tmps.map (A2 n)) a x y zt):=by rw[wi];refine Rf.bind (Rf.newObj (o:=.deferred (je [])) trivial) λr=>?_;refine Rf.bind (f:=JF n) (Rf.pure (by simp[JF,Qh,Yl])) λq=>?_;have ⟨d,N⟩:=q;exact Rf.bind (Rf.newObj (o:=.loop { state:=.ready,pending:=zt,fn,tmps,params:=a,assign:=x,body:=y,defers:=d }) trivial) λr=>Rf.pure iW
end
section
variable {J:iH} {l:Nat} {k:List jc} {Q:Exit->Act->qi->Prop} {a:Act} {g:Array xe} {b:iO} {o:xe}
def Wj{l}(W:¬J (.obj l)):∀e∈(#[⟨.obj l,vy,vy⟩,⟨.obj l,jz,vy⟩]:Array Event),Gp J e:=λe N=>by simp at N;obtain rfl|rfl:=N<;>exact Co W
def WB{r}(h:Gn w l r)(Y:r.state=.ready):(do oj l;th Next.skip:Sem Next).runT P w #[]=(.ok .skip (Fq w l { r with state:=.busy }),#[⟨.obj l,vy,vy⟩,⟨.obj l,jz,vy⟩]):=by rw[Gn]at h;simp[-qg,oj,im,iq,gk,uf,rj,th,l6,h,Y,vg,Fq]
def GD{r}(h:Gn w l r):(po l zt).runT P w #[]=(.ok (o0 jz) (Fq w l { r with state:=.ready,pending:=zt }),#[⟨.obj l,vy,vy⟩,⟨.obj l,jz,vy⟩]):=by rw[Gn]at h;simp[-qg,po,im,iq,gk,uf,rj,th,l6,h,vg,Fq]
def MP{r}(h:Gn w l r)(Y:r.state=.ready):(oy l).runT P w #[]=(.ok r.pending (Fq w l { r with state:=.exhausted }),#[⟨.obj l,vy,vy⟩,⟨.obj l,jz,vy⟩]):=by rw[Gn]at h;have e:(LoopState.ready==LoopState.busy)=vy:=iW;simp[-qg,oy,im,iq,gk,uf,rj,th,l6,h,Y, vg,Fq]
def WC{r}(h:Gn w l r){as:iJ}(s:as.size=r.params.size):(uh l as).runT P w #[]=(.ok (.round l r.fn ((r.params.zip as).foldl (λtmps(t,a)=>tmps.setIfInBounds t a) r.tmps) r.assign r.body) w,#[⟨.obj l,vy,vy⟩]):=by rw[Gn]at h;simp[-qg,uh,im,iq,uf,rj,th,l6,h,s,vg]
def Acj{b}(h:w.1[b]?=je (.deferred (je []))):(sw b).runT P w #[]=(.ok [] { w with heap:=w.1.setIfInBounds b (.deferred zt) },#[⟨.obj b,vy,vy⟩,⟨.obj b,jz,vy⟩]):=by simp[-qg,sw,iq,gk,uf,rj,th,l6,h,vg]
def EO(params assign body):(wi f tmps params assign body zt).runT P w #[]=(.ok (iZ w.1+1,[{ target:=.collected w.1.size,args:=#[] }]) { w with heap:=(w.1.push (.deferred (je []))).push (.loop { state:=.ready,pending:=zt,fn:=f,tmps,params,assign,body,defers:=iZ w.1 }) },#[]):=by simp[-qg,wi,Go.newObj,uf,rj,th,l6]
def Oc{a}{s:Sem a}{B x}(h:s.runT P w #[]=(.ok x B,X)):s.run P w=.ok x B/\s.events P w #[]=X:=by simp_all
def EV.begin{r}(K:Gn v l r)(Y:r.state=.ready)(W:¬J (.obj l))(D:∀d,EV P e J N (G (Mb l f tmps k) cs) (Fq (v.at d) l { r with state:=.busy })):EV P e J N (G (Mb l f tmps (.beginRound::k)) cs) v:=by refine EV.sem iW (λn _=>GA l) λd=>?_;obtain⟨C,a⟩:=Oc (WB (show Gn (v.at d) l r from K) Y);refine⟨.skip,_,G _ cs,C,a▸Wj W,iW,λn w B p F=>?_,D d⟩;have F:(do oj _;th Next.skip:Sem Next).run P w=.ok .skip B:=F;refine⟨seen P f _,?_,λc b=>qq b⟩;(have H:stepG P e (G (Mb (sh n l) f (tmps.map (A2 n)) (.beginRound::k.map (Dh n))) (cs.map (Bp n))) w=stepG.apply P jz (Mb (sh n l) f (tmps.map (A2 n)) (.beginRound::k.map (Dh n))) (cs.map (Bp n)) zt (do oj (sh n l);th Next.skip) w:=by simp[G,stepG,stepG.exec,Mb]);have M:((Mb (sh n l) f (tmps.map (A2 n)) (.beginRound::k.map (Dh n))).6==yj)=vy:=iW;rw[E6,Wv,E6,Wv,show yq _ _=.beginRound::k.map _ from iW,H];simp only[stepG.apply,qg,F,bV,M];simp[GStep.after,G,Mb,Frame.finish]
def EV.endRound{r c}(K:Gn v l r)(W:¬J (.obj l))(D:∀d,EV P e J N (G (c.finish (o0 jz)) cs) (Fq (v.at d) l { r with state:=.ready,pending:=zt })):EV P e J N (G (Mb l f tmps []) (c::cs)) v:=by refine EV.sem iW (λn _=>RD l zt) λd=>?_;obtain⟨C,a⟩:=Oc (GD (show Gn (v.at d) l r from K));refine⟨o0 jz,_,G _ cs,C,a▸Wj W,iW,λn w B p F=>?_,D d⟩;refine⟨seen P f _,?_,λg b=>qq b⟩;rw[E6,Wv,E6,bF,←Nc];simp[G,stepG,stepG.exec,Mb,cM,qg,F,doReturn];simp[GStep.after]
def EV.endLoop{r}{b:Frame}(K:Gn v l r)(Y:r.state=.ready)(Q:r.pending=zt)(W:¬J (.obj l))(D:∀d,EV P e J N (G (b.at a k) cs) (Fq (v.at d) l { r with state:=.exhausted })):EV P e J N (G (b.at a (.endRangeFunc l::k)) cs) v:=by refine EV.sem iW (λn _=>VV l) λd=>?_;obtain⟨C,c⟩:=Oc (MP (show Gn (v.at d) l r from K) Y);refine⟨zt,_,G _ cs,by rw[C,Q],c▸Wj W,iW,λn w B p F=>?_,D d⟩;refine⟨seen P b.1 _,?_,λg f=>qq f⟩;rw[E6,Hv,E6,Hv];simp[G,stepG,stepG.exec,Frame.at,bF,Dh,qg,F];simp[GStep.after]
def EV.taken{b:Frame}{c y}(f:a.defers = [{ target:=.collected y,args:=#[] }])(j:v.1[y]?=je (.deferred (je [])))(W:¬J (.obj y))(D:∀d,EV P e J N (G { b.at { a with defers:=[] } c with mode:=.returning } cs) { v.at d with heap:=v.1.setIfInBounds y (.deferred zt) }):EV P e J N (G { b.at a c with mode:=.returning } cs) v:=by refine EV.sem (f:=λn=>yq (Qh n)) (t:=λn=>sw (sh n y)) iW (λn _=>AG y) λd=>?_;obtain⟨C,i⟩:=Oc (P:=P) (Acj (show(v.at d).1[y]?=_ from j));refine⟨[],_,G { b.at { a with defers:=[] } c with mode:=.returning } cs,C,i▸Wj W,iW,λn w B p F=>?_,D d⟩;refine⟨seen P b.1 ((sw (sh n y)).events P w #[]),?_,λh g=>qq g⟩;have S:Bt n (G { b.at a c with mode:=.returning } cs)=G { b.at (B9 n a) (c.map (Dh n)) with mode:=.returning } (cs.map (Bp n)):=rfl;have L:Bt n (G { b.at { a with defers:=[] } c with mode:=.returning } cs)=G { b.at { B9 n a with defers:=[] } (c.map (Dh n)) with mode:=.returning } (cs.map (Bp n)):=rfl;(have s:(B9 n a).2 = [{ target:=.collected (sh n y),args:=#[] }]:=by simp[B9,f,Qh,Yl]);rw[S,L];simp[G,stepG,unwind,Frame.at,s,qg,F];simp[GStep.after]
def EV.yield{r}{c:Frame}{f m}(O:g[i]?=je o)(u:Region.wanted o (yw g a.tmps)=jz)(E:c.kind=.normal)(T:o.op=.call { callee:=.value f,args,argTypes:=m })(U:a.eval f=.func (.yield l) #[] #[])(K:Gn v l r)(hs:args.size=r.params.size)(W:¬J (.obj l))(y:E4 P.globals.size f=jz)(S:args.all (E4 P.globals.size)=jz)(D:∀h,EV P e J N (G (Mb l r.fn ((r.params.zip (args.map a.eval)).foldl (λtmps(t,x)=>tmps.setIfInBounds t x) r.tmps) [.code r.assign,.beginRound,.code r.body]) (c.at a (.inRegion g (i::b)::k)::cs)) (v.at h)):EV P e J N (G (c.at a (.inRegion g (i::b)::k)) cs) v:=by
 have Q:∀(a:Act)l,a.eval f=.func (.yield l) #[] #[]->execOp a.eval o=uh l (args.map a.eval):=λa l U=>by rw[execOp,T];show((pt (a.eval f) (args.map a.eval)) >>= λh=>invoke h.1 h.2)=_;rw[U];show invoke (.fn (.yield l) #[]) (#[]++args.map a.eval)=_;rw[eK];rfl
 refine EV.sem (f:=λn=>QY n) (t:=λn=>uh (sh n l) ((args.map a.eval).map (A2 n))) iW (λn _=>Ahd l (args.map a.eval)) λh=>?_;obtain⟨C,q⟩:=Oc (P:=P) (WC (show Gn (v.at h) l r from K) (as:=args.map a.eval) (by simpa using hs));refine⟨_,_,_,C,by rw[q];intro d he;simp at he;subst he;exact Co W,iW,λn w B p F=>?_,D h⟩;refine⟨seen P c.1 ((uh (sh n l) ((args.map a.eval).map (A2 n))).events P w #[]),?_,λd he=>qq he⟩;have j:=Q (B9 n a) (sh n l) (by rw[Jh p a f y,U];simp[Nv]);rw[Li (λx Z=>Jh p a x Z) args S]at j;have s:Region.wanted o (yw g (B9 n a).1)=jz:=by exact T5f
 have M:((c.at (B9 n a) (.inRegion g (i::b)::k.map (Dh n))).6==yj)=vy:=by show(c.6==yj)=vy;rw[E];rfl
 rw[E6,Hv,E6,show yq (Dh n) (.inRegion g (i::b)::k)=.inRegion g (i::b)::k.map (Dh n) from iW,stepG_oper O s,j];have F:(uh (sh n l) ((args.map a.eval).map (A2 n))).run P w=.ok (.round (sh n l) r.3 (((r.5.zip (args.map a.eval)).foldl (λtmps(t,x)=>tmps.setIfInBounds t x) r.4).map (A2 n)) r.6 r.7) B:=F;simp only[stepG.apply,qg,F,bV,M];simp[GStep.after,G,Mb,Frame.round,Frame.at,Bp,Dh,Kh,B9]
def EV.enterLoop{b:Frame}{j h}{I:iJ}{K c}(E:b.kind=.normal)(U:a.eval j=.func (.func h) #[] I)(y:E4 P.globals.size j=jz)(i:P.funcs[h]? = je K)(s:(K.name == "runtime.NumGoroutine")=vy)(V:K.body=je c)(D:∀f,EV P e J N (G ((base h).at { tmps:=(#[.func (.yield (v.heap.size+1)) #[] #[]]++I)++o2 (K.ntmps - (#[ni (.yield (v.heap.size+1)) #[] #[]]++I).size) re,defers:=[] } [.code c]) (b.at { a with defers:=[{ target:=.collected v.heap.size,args:=#[] }]++a.defers } (.inRangeFunc (v.heap.size+1) :: k) :: cs))
   {v.at f with heap:=(v.1.push (.deferred (je []))).push (.loop { state:=.ready,pending:=zt,fn:=b.fn,tmps:=a.tmps,params,assign,body,defers:=v.1.size }) }):EV P e J N (G (b.at a (.code (.rangeFunc j params assign body) :: k)) cs) v:=by
 have o:K.9.isNone=vy:=by rw[V];rfl
 refine EV.sem (f:=λn=>JF n) (t:=λn=>wi b.1 (a.1.map (A2 n)) params assign body zt) iW (λn _=>MN b.1 a.1 params assign body) λf=>?_;obtain⟨C,l⟩:=Oc (P:=P) (EO (w:=v.at f) (f:=b.1) (tmps:=a.1) params assign body);refine⟨_,_,_,C,by rw[l];simp,iW,λn w B p F=>?_,D f⟩;have F:(wi b.1 (a.1.map (A2 n)) params assign body zt).run P w=.ok (sh n (v.1.size+1),[{ target:=.collected (sh n v.1.size),args:=#[] }]) B:=by (have:JF n (v.1.size+1,[{ target:=.collected v.1.size,args:=#[] }])=(sh n (v.1.size+1),[{ target:=.collected (sh n v.1.size),args:=#[] }]):=by simp[JF,Qh,Yl]);rwa[←this]
 refine⟨seen P b.1 ((wi b.1 (a.1.map (A2 n)) params assign body zt).events P w #[])++seen P b.1 #[],?_,λg d=>?_⟩;have H:∀L(I:iJ)w,(callFunc h (#[.func (.yield L) #[] #[]]++I)).runT P w #[]=(.ok (.enter h (#[.func (.yield L) #[] #[]]++I)) w,#[]):=λL I w=>by rw[callFunc];show(match P.2[h]? with|none=>_|some fn=>_:Sem Next).runT P w #[]=_;rw[i];dsimp only;rw[s,o];rfl
 have m:∀L(I:iJ)(X:Frame),X.eval j=.func (.func h) #[] I->(do let f ←resolve X.eval { callee:=.value j,args:=#[.const (.func (.yield L) #[] #[])],argTypes:=#[] } 0;invoke f.1 f.2:Sem Next)=callFunc h (#[.func (.yield L) #[] #[]]++I):=λL I X S=>by rw[resolve];(have g:(#[Operand.const (.func (.yield L) #[] #[])].map X.eval)=#[.func (.yield L) #[] #[]]:=by simp[Frame.eval]);simp[g,S,pt];rfl
 have M:(b.6 == yj)=vy:=by rw[E];rfl
 have q:(B9 n a).eval j=.func (.func h) #[] (I.map (A2 n)):=by rw[Jh p a j y,U];simp[Nv]
 have r:∀X:Frame,X.2=a.1.map (A2 n)->X.eval j=.func (.func h) #[] (I.map (A2 n)):=λX g=>by rw[←q];cases j <;> first|rfl|simp[Frame.eval,Act.eval,g,B9]
 have d:Bp n ((base h).at { tmps:=(#[.func (.yield (v.1.size+1)) #[] #[]]++I)++o2 (K.7 - (#[ni (.yield (v.1.size+1)) #[] #[]]++I).size) re,defers:=[] } [.code c])=Frame.enter P h ((#[.func (.yield (sh n (v.1.size+1))) #[] #[]]++I.map (A2 n))) .normal:=by rw[←enter_at _ i V,←Mp];simp[Nv]
 show stepG P e (G (Bp n (b.at a (.code (.rangeFunc j params assign body) :: k))) (cs.map (Bp n))) w=.go (G (Bp n ((base h).at { tmps:=(#[.func (.yield (v.1.size+1)) #[] #[]]++I)++o2 (K.7 - (#[ni (.yield (v.1.size+1)) #[] #[]]++I).size) re,defers:=[] } [.code c])) (Bp n (b.at { a with defers:=[{ target:=.collected v.1.size,args:=#[] }]++a.2 } (.inRangeFunc (v.1.size+1) :: k)) :: cs.map (Bp n))) B _;rw[d,Hv,Hv];simp[G,stepG,stepG.exec,Frame.at,bF,Dh];rw[show(B9 n a).1=a.1.map (A2 n) from iW];simp[qg,F];rw[m _ _ _ (r _ iW)];obtain⟨Q,R⟩:=Oc (H (sh n (v.1.size+1)) (I.map (A2 n)) B);simp[stepG.apply,qg,Q,R,bV,M];simp[GStep.after,B9,Qh,Yl];obtain d|d:=cH.1 d;exact qq d;rw[seen_none]at d;simp at d
def VE{r n c}{Post:iI}(O:g[i]?=je o)(h:Region.wanted o (yw g a.tmps)=jz)(T:o.op=.call { callee:=.value n,args,argTypes:=c })(U:a.eval n=.func (.yield l) #[] #[])(K:Gn w l r)(s:args.size=r.params.size)(W:¬J (.obj l))(y:E4 P.globals.size n=jz)(S:args.all (E4 P.globals.size)=jz)(j:∀d(f:Frame)cs,(∀B,Post B->EV P e J N (G (f.finish (o0 jz)) cs) B)->EV P e J N (G (Mb l r.fn ((r.params.zip (args.map a.eval)).foldl (λtmps(t,x)=>tmps.setIfInBounds t x) r.tmps) [.code r.assign,.beginRound,.code r.body]) (f::cs)) (w.at d))(F:∀B,Post B->opsV P e J N fn g b Q (a.put o.dst (o0 jz)) B):opsV P e J N fn g (i::b) Q a w:=by intro p k z D E M;refine EV.yield O h E T U K s W y S λd=>j d _ z λB m=>?_;rw[Frame.finish_at,O];exact F B m p k z D E M
def EV.back{K h c l B X z}(S:l.defers = [])(I:P.funcs[h]?=je K)(g:(yo K l.tmps).run P B=.ok x B)(b:∀d,(yo K l.tmps).run P (B.at d)=.ok x (B.at d))(r:∀d,(yo K l.tmps).events P (B.at d) #[]=#[])(D:EV P e J N (G (X.finish x) z) B):EV P e J N (G { (base h).at l c with mode:=.returning } (X::z)) B:=EV.step iW λi d=>⟨_,B.at d,stepR_ret iW S iW I i (b d) (λf a=>by have a:f∈(yo K l.1).events P _ #[]:=a;grind),D.at d⟩
def GK{v h}{cap:iJ}{K c}(f:qi→Prop)(U:a.eval v=.func (.func h) #[] cap)(y:E4 P.globals.size v=jz)(I:P.funcs[h]? = je K)(s:(K.name == "runtime.NumGoroutine")=vy)(V:K.body=je c)(j:∀tmps w,(yo K tmps).run P w=.ok (.tuple #[]) w)(x:∀tmps w,(yo K tmps).events P w #[]=#[])(m:∀d,Kk P e J N h c (λg l B=>(g=.normal∨g=.ret)∧l.defers = []∧f B) { tmps:=(#[.func (.yield (w.heap.size+1)) #[] #[]]++cap)++o2 (K.ntmps - (#[ni (.yield (w.heap.size+1)) #[] #[]]++cap).size) re,defers:=[] }
   {w.at d with heap:=(w.1.push (.deferred (je []))).push (.loop { state:=.ready,pending:=zt,fn:=fn,tmps:=a.tmps,params,assign,body,defers:=w.1.size }) })(W:¬J (.obj (w.1.size+1)))(o:∀B,f B->∃r,Gn B (w.1.size+1) r/\r.state=.ready/\r.pending=zt/\∀d,Q .normal { a with defers:=[{ target:=.collected w.1.size,args:=#[] }]++a.defers } (Fq (B.at d) (w.1.size+1) { r with state:=.exhausted })):Kk P e J N fn (.rangeFunc v params assign body) Q a w:=by intro b k z D E M;subst D;refine EV.enterLoop E U y I s V λd=>?_;(have p:∀i(l:Act)B,l.2 = []->f B->EV P e J N (G { (base h).at l i with mode:=.returning } (b.at { a with defers:=[{ target:=.collected w.1.size,args:=#[] }]++a.2 } (.inRangeFunc (w.1.size+1) :: k) :: z)) B:=λi l B S u=>by apply EV.back S I (j _ _) (λd=>j _ _) (λd=>x _ _);show EV P e J N (G (b.at { a with defers:=[{ target:=.collected w.1.size,args:=#[] }]++a.2 } (.endRangeFunc (w.1.size+1) :: k)) z) B;obtain⟨r,C,F,T,q⟩:=o B u;exact EV.endLoop C F T W λd=>M _ _ _ (q d));refine m d (base h) [] _ iW iW λg l B⟨t,S,u⟩=>?_;obtain rfl|rfl:=t;exact EV.ctl (p [] l B S u) iW iW λn H _=>stepG_end (b:=base h) (a:=B9 n l);exact λi=>p i l B S u
def BY{K c}{args:iJ}{d:p8→qi→Prop}{R:Array p8→p8}(I:P.funcs[f]? = je K)(s:(K.name == "runtime.NumGoroutine")=vy)(V:K.body=je c)(k:∀tmps w,(yo K tmps).run P w=.ok (R tmps) w)(r:∀tmps w,(yo K tmps).events P w #[]=#[])(m:Kk P e J N f c (λh a B=>(h=.normal∨h=.ret)∧∃y,a.defers = [{ target:=.collected y,args:=#[] }]∧B.heap[y]? = je (.deferred (je []))∧¬J (.obj y)∧∀g,d (R a.tmps) { B.at g with heap:=B.heap.setIfInBounds y (.deferred zt) }) { tmps:=args++o2 (K.ntmps - args.size) re,defers:=[] } w):Ba P e J N f args w d:=by refine⟨K,c,I,s,V,λX cs L F=>?_⟩;(have i:∀b(a:Act)B,(∃y,a.2 = [{ target:=.collected y,args:=#[] }]/\B.1[y]? = je (.deferred (je []))/\¬J (.obj y)/\∀g,d (R a.1) { B.at g with heap:=B.1.setIfInBounds y (.deferred zt) })->EV P e J N (G { (base f).at a b with mode:=.returning } (X :: cs)) B:=by rintro b a B⟨y,S,D,l,Q⟩;exact EV.taken S D l λg=>EV.back iW I (k _ _) (λg=>k _ _) (λg=>r _ _) (F _ _ (Q g)));refine m (base f) [] (X :: cs) iW iW λh j B⟨o,Q⟩=>?_;obtain rfl|rfl:=o;exact EV.ctl (i [] j B Q) iW iW λn H _=>stepG_end (b:=base f) (a:=B9 n j) (cs:=(X :: cs).map (Bp n));exact λb=>i b j B Q
end
def ZE{β:Type}:ForInStep β->β
 |.yield x=>x
 |.done x=>x
def Aa0{b a:Type}{Pr:a->Prop}{f:b->a->Option (ForInStep a)}(h:∀d c r,Pr c->f d c=je r->Pr (ZE r)):∀(l:List b)c r,Pr c->forIn l c f=je r->Pr r:=by intro l;induction l with|nil=>grind|cons d l O=>intro c r D Y;rw[fS]at Y;cases I:f d c with|none=>grind|some s=>rw[I]at Y;have:=h d c s D I;cases s with|yield x=>exact O x r this Y|done x=>simp at Y;subst Y;exact this
def Zx(n:O)(c:iJ):Prop:=c.map (A2 n)=c
def NT(n:O)(i:vu):Prop:=∀z,i.zero=je z->A2 n z=z
def HJ(h:A2 n z=z):Zx n z.cells:=by rw[Zx,←Ku,h]
def UI{a:uy->Option vu}(V:∀t i,a t=je i->NT n i){L i}(h:Made.reckonStruct a L=je i):NT n i:=by
 unfold Made.reckonStruct at h;simp only[eG,bN]at h;obtain⟨s,e,h⟩:=h;have N:∀c,s.2.2.2.2.2.2.2.1=je c->Zx n c:=by rw[←eY]at e;refine Aa0 (Pr:=λs:Array Field×Nat×Nat×Nat×Nat×Bool×Bool×Option (Array p8)×String=>∀c,s.2.2.2.2.2.2.2.1=je c->Zx n c) (λf g r D Y=>?_) _ _ _ (by intro c M;simp at M;subst M;unfold Zx;simp) e;simp only[bN]at Y;obtain⟨k,E,Y⟩:=Y;(have b:∀q [Decidable q] c,(if q then zt else g.2.2.2.2.2.2.2.1 >>= λz=>k.8 >>= λy=>je (z++y.cells))=je c->Zx n c:=λq _ c M=>by split at M;cases M;cases N:g.2.2.2.2.2.2.2.1 with|none=>rw[N]at M;cases M|some z=>rw[N]at M;cases U:k.8 with|none=>rw[U]at M;cases M|some y=>rw[U]at M;obtain rfl:=aC M;unfold Zx;rw[dQ,D z N,HJ (V _ k E y U)]);(have u:∀{x},je (ForInStep.yield x)=je r->(∀c,x.2.2.2.2.2.2.2.1=je c->Zx n c)->∀c,(ZE r).2.2.2.2.2.2.2.1=je c->Zx n c:=λC J=>by obtain rfl:=aC C;exact J);by_cases C:k.2.isEmpty=jz;simp[C]at Y;by_cases J:f.4=jz;simp[C,J]at Y;simp only[C,J,aX,cB]at Y;by_cases T:f.5.isEmpty=jz;simp only[T,bV,bN]at Y;exact Wwv;simp only[T,aX,cB,bN]at Y;exact Wwv
 intro z B;have:∃c,s.2.2.2.2.2.2.2.1=je c/\z=.agg c:=by split at h;all_goals simp at h;subst h;simp at B;obtain⟨c,C,J⟩:=B;exact⟨c,C,J.symm⟩
 obtain⟨c,C,rfl⟩:=this;rw[Cg,N c C]
def Oy{d s c b}(h:A2 n z=z):NT n (Made.word d s z c b):=λy U=>by simp[Made.word]at U;subst U;exact h
def Ae4{c}(h:Zx n c)(k):Zx n (o2 k c).flatten:=by rw[Zx]at *;simp_all
def UH{a:uy->Option vu}(V:∀t i,a t=je i->NT n i){d i}(h:Made.reckon a d=je i):NT n i:=by unfold Made.reckon at h;cases d with|struct L=>exact UI V h|pointer e=>simp[eG,bN]at h;obtain⟨k,E,h⟩:=h;split at h;cases h;split at h;cases h;exact Gzk;exact Gzk|slice e=>exact Bic|map k e=>simp[eG,bN,fT,aU]at h;obtain⟨_,_,_,_,_,_,_,_,rfl⟩:=h;exact Oy Ae|chan b e=>exact Bic|func c r v=>simp[eG,bN,fT,aU]at h;obtain⟨_,_,rfl⟩:=h;exact Oy Ae|array k e=>simp[eG,bN,fT,aU]at h;obtain⟨q,f,_,_,rfl⟩:=h;intro z N;dsimp only at N;split at N;cases N;split at N;simp at N;subst N;simp;simp at N;obtain⟨y,U,rfl⟩:=N;rw[Cg,Ae4 (HJ (V _ q f y U))]|_=>simp at h
def CR{T}(F:∀(t:Nat)i,T.types[t]?=je i->NT n i):∀(k t:Nat)i,Made.infoAt T k t=je i->NT n i
 |0,t,i,h=>by cases h|k+1,t,i,h=>by rw[Made.infoAt]at h;split at h;exact F t i h;simp[bN]at h;have ⟨d,_,h⟩:=h;exact UH (CR F k) h
def SM(P:jd):Bool:=P.types.all λi=>match i.zero with|some z=>KU z|none=>jz
def Ac9(h:SM P=jz):Ie P:=λt i z V N n=>by (have F:∀t(i:vu),P.types[t]?=je i->NT n i:=λt i V z N=>by rw[SM,dC]at h;have:=h i (cN V);rw[N]at this;exact Y4 this);rw[Tables.info?]at V;split at V;exact F t i V z N;exact CR F _ _ _ V z N
def Ren.ofList(l:iO)(W)(hn:l.Nodup)(hl:∀x∈l,x<W):O where
 f i:=if h:i<iY l then l[i] else W+(i - iY l)
 inj:=λ{i j} e=>by
  by_cases hi:i<iY l
  ·by_cases hj:j<iY l
   ·simp[hi,hj,dite_true]at e;exact(List.getElem_inj hn).1 e
   ·simp[hi,hj,dite_true,dite_false]at e;have:=hl l[i] (bP hi);omega
  ·by_cases hj:j<iY l
   ·simp[hi,hj,dite_true,dite_false]at e;have:=hl l[j] (bP hj);omega
   ·simp[hi,hj,dite_false]at e;omega
section
variable {l:iO} {z:l.Nodup} {K:∀x∈l,x<W}
def Ya(h:i<iY l):sh (O.ofList l W z K) i=l[i]:=by simp[sh,O.ofList,h]
def X9{x}(h:l[i]?=je x):sh (O.ofList l W z K) i=x:=by have ⟨C,J⟩:=aF.1 h;rw[Ya C,J]
def IQ(h:iY l<=i):sh (O.ofList l W z K) i=W+(i - iY l):=by simp[sh,O.ofList,Nat.not_lt.2 h]
end
def Dp.ofList{l:iO}{J b}(z)(K:∀x∈l,x<iZ w.1)(N:iZ v.1=iY l)(R:w.tape=v.tape)(y:w.drawn=v.drawn)(O:w.os=v.os)(Q:w.output=v.output)(a:∀i r(o:Obj),l[i]?=je r->v.1[i]?=je o->∃I,w.1[r]?=je I/\LikeO (Ren.ofList l w.1.size z K) J i o I)(G:∀i<P.globals.size,l[i]?=je i)(c:Wf J g v)(d:∀q,Jf v q->¬J q->b (Ha (Ren.ofList l w.1.size z K) q)):Dp P (Ren.ofList l w.1.size z K) J b g v w:=by refine⟨λt=>⟨λj _=>?_,λi V=>?_,λi V=>?_,λi o V=>?_,R,y,O,Q⟩,λi V=>X9 (G i V),?_,c,d⟩;rw[N,IQ Aa];omega;rw[N]at V;rw[Ya V];simp_all;rw[N]at V;rw[IQ V];omega;have Y:i<iY l:=Aj;rw[Ya Y];exact a i _ o (aG Y) V;grind
section
variable {J:iH} {Q:Exit->Act->qi->Prop} {b:Act} {g:Array xe} {l:iO} {o:xe}
end
end Go.Pair

import Derived.Test.YtnepogbkiocdhaaGreatDoorQ07
import Derived.Deep.WholeRow
import Derived.Test.YtnepogbkiocdhaaGreatDoorQ04
import Derived.Test.YtnepogbkiocdhaaGreatDoorXLib
set_option maxHeartbeats 2000000
set_option maxRecDepth 8000
set_option linter.all false
open Option renaming some->je,none->zt,toList_some->p9,toList_none->th8
open Go.Proofs.Tryz renaming prog->ow,underlying35->und,f61->slj,runUnderlying115->fpg,f43->nxu,prog->Z
open Go renaming Value->p8,undef->re,World->qi,Goroutine->gy,Frame->s9,Code->gj,heap_alloc_new->iy,FuncId->mf,TypeId->uy,events_store->rxk,yielded->yw,Oper->xe,results_tmp->ump,madeCells->hsv,goexitEntry->qh,storedEv->gi,Value->F
open Bool renaming false->vy,true->jz
open List.range renaming loop->p7
open List renaming range->me,getElem?_toArray->ggd,length->iY
open Go.World renaming cell?->yg,frozen?->ue,frozen?_setCell->st3,cell?_setCell_other->gn,cell?_setCell_same->gh
open Go.Region renaming wanted->jq,ready->q7
open Go.Act renaming eval->vsp
open Go.Conc renaming base->pbq,events_results_tmp->lhy,served->kt
open Go.Exit renaming normal->yv
open Go.Mode renaming plain->qwf
open Array renaming replicate->o2,size->iZ
open Prod renaming fst->jw
open Go.Sem renaming run_bind->bvb
open Go.Goroutine renaming callers->bfb
open Go.Value renaming int->wy,pointer->vp,slice->xh,bool->o0,tuple->gq
open Go.Obj renaming cells->pf
open Go.IntKind renaming i64->yh,u8->ry
open Or renaming inl->zk,inr->qx
open Go renaming iW->T
open Go
open Go.Proofs.Tryz Orch
variable {B O h u v v' w:qi}{Bs S X:iG}{Ch I K M U a b bl c co i j k l n off sb sm x y:Nat}{E:Nat->Nat}{H W bs:iE}{N:gy->qi->Prop}{R Y:iP}{cs z:List s9}{d:p8}{done:Array Bool}{e t:Bool}{f fn:mf}{g:Array xe}{m:Array uy}{o:xe}{p q:Prop}{r:uy}{st:Int}
def Pjj(h:p:=by
 rintro x O⟨y,U,rfl,g,C,E,v,s,⟨z,d,j⟩,p⟩;cases d;have K:=Qf s g C p E;exact⟨K,W.kx (λi V=>D7 g V) (λr Y=>K.block r (W.low.obj r Y) (t r Y)),U,λi D=>Tc g C D,by rw[Bn,C.1],j⟩):p:=h
def Pv2(k:q)(h:Hd q->p:=by
 intro kz;refine Bm ?_;simp only[Az,As];exact kz.1):p:=h ⟨k⟩
def K9h(k:q)(h:Hd q->p:=by
 intro kz;refine Au ?_;simp only[Az,As];exact kz.1):p:=h ⟨k⟩
def V2g(k:q)(h:Hd q->p:=by
 intro kz;refine Ar ?_;walk_nrm;exact kz.1):p:=h ⟨k⟩
def Qp5(k:q)(h:Hd q->p:=by
 intro kz;refine A3 (t:=true) F2 ?_;simp only[bV];exact kz.1):p:=h ⟨k⟩
def Ldr(k:q)(h:Hd q->p:=by
 intro kz
 iterate 4(refine Ar ?_;walk_nrm)
 exact kz.1):p:=h ⟨k⟩
def Trb(k:q)(h:Hd q->p:=by
 intro kz
 iterate 3(refine Ar ?_;walk_nrm)
 exact kz.1):p:=h ⟨k⟩
def N2m(k:q)(h:Hd q->p:=by
 intro kz
 iterate 2(refine Av ?_)
 refine Ay ?_;exact kz.1):p:=h ⟨k⟩
def T03(k:q)(h:Hd q->p:=by
 intro kz;refine Ar ?_;walk_nrm;refine Au ?_;simp only[Az,As];exact kz.1):p:=h ⟨k⟩
def Wad(k:q)(h:Hd q->p:=by
 intro kz
 iterate 2(refine Ar ?_;walk_nrm)
 exact kz.1):p:=h ⟨k⟩
def G9s(k:q)(h:Hd q->p:=by
 intro kz;refine Av ?_;refine Ay ?_;exact kz.1):p:=h ⟨k⟩
def Tdr(h:p:=by
 refine Nat.lt_of_not_le λo=>?_;simp[World.cell?,cW o]at g):p:=h
def L7e(h:p:=by
 simp[Instr.sliceAt,Instr.slice,Instr.sliceBounds,Instr.sliceBound,asIntOf,go_sem,Tryz.runUnderlying35,F,C,Result.evThen]):p:=h
def Mwc(k:q)(h:Hd q->p:=by
 intro kz;refine Ay ?_;refine Ar ?_;walk_nrm;exact kz.1):p:=h ⟨k⟩
def Qit(k:q)(h:Hd q->p:=by
 intro kz;refine Ay ?_
 iterate 2(refine Ar ?_;walk_nrm)
 exact kz.1):p:=h ⟨k⟩
def Emq(h:p:=by
 walk_nrm;unfold execOp;simp only[resolve,invoke,builtin,Sem.run_bind,Sem.run_pure,Result.andThen_ok,cD,bF,cM];walk_nrm;rw[a8]
 rfl):p:=h
def Tqk(h:p:=by
 refine⟨iW,iW,iW,by rw[Cz];exact aA _,λk E Z=>?_⟩;rw[B6]
 grind):p:=h
def Thb(k:q)(h:Hd q->p:=by
 intro kz;refine Ds T iW (λw=>stepG_region_end) ?_;exact kz.1):p:=h ⟨k⟩
def Qjw(k:q)(h:Hd q->p:=by
 intro kz;refine EV.opPure (S:=env Lv) (fn:=43) (x:=x) E iW Ac (B1 Ab) (A5 _ _) (λw=>Ac) (λw=>Ac) ?_;exact kz.1):p:=h ⟨k⟩
def C2y(k:q)(h:Hd q->p:=by
 intro kz;refine Ds T iW (λw=>stepG_region) ?_;exact kz.1):p:=h ⟨k⟩
def Ckz(k:q)(h:Hd q->p:=by
 intro kz;refine Ds T iW (λw=>stepG_seq) ?_;exact kz.1):p:=h ⟨k⟩
def A80(k:q)(h:Hd q->p:=by
 intro kz;refine Ds T iW (λw=>stepG_region) ?_;simp only[bD,aW,aR,Nat.reduceAdd,aY,List.range,List.range.loop];exact kz.1):p:=h ⟨k⟩
def Gk2(k:q)(h:Hd q->p:=by
 intro kz;refine EV.ropP (S:=env Lv) iW Ac (by intro cz N;cases N) (B1 Ab) (A5 _ _) Aiy Aiy ?_;simp only[Ia,rev,Act.eval,rn,bD,aW,aR,Nat.reduceAdd,bK,bH,bG,List.range,List.range.loop,aY];exact kz.1):p:=h ⟨k⟩
def N5y(k:q)(h:Hd q->p:=by
 intro kz;refine A3 (t:=true) Ac ?_;simp only[bV,cB,aX];exact kz.1):p:=h ⟨k⟩
def D1b(k:q)(h:Hd q->p:=by
 intro kz;simp only[Ia,rev,Act.eval,rn,bD,aW,aR,Nat.reduceAdd,bK,bH,bG,List.range,List.range.loop,aY];refine EV.ropP (S:=env Lv) iW Ac (by intro cz N;cases N) (B1 Ab) (A5 _ _) Aiy Aiy ?_;simp only[Ia,rev,Act.eval,rn,bD,aW,aR,Nat.reduceAdd,bK,bH,bG,List.range,List.range.loop,aY];exact kz.1):p:=h ⟨k⟩
def U1y(h:p:=by
 unfold execOp;walk_nrm;simp only[Sem.run_bind,e]
 rfl):p:=h
def Kp6(h:p:=by
 obtain rfl:m=r:=by simpa[Value.ownBlock] using O
 rw[ae]at z;cases z;cases M):p:=h
def W62(h:p:=by
 simp only[cS,bU,bL,eZ,bM,dR,or_false,not_or,iA,Option.toList_some,Option.toList_none,and_true,not_false_eq_true];omega):p:=h
def Dto(h:p:=by
 cases l with
 |cell q=>
  obtain⟨g,f,Q⟩:=q;simp only[Ha,Ew,Loc.cell.injEq,Addr.mk.injEq]at c;obtain⟨S,rfl,rfl⟩:=c;rw[Hk S]
 |_=>simp[Ha]at c):p:=h
namespace Go.Proofs.Y
variable {L:iH}{P:Program}{Q:Exit->Act->qi->Prop}{args:Array Operand}{ba:iM}
open Go Go.Conc Go.Pair Go.RowKit
def NI:Ie Z:=Ac9 Ab
def Lv:List mf:=[4,13,12,22,19,6,11,15,29,24,27,20,21,23,32,35,36,34,38,51,52,53,54,57,64,68,70,72,73,74,76,77,78,79,80,81,82,84,85,86,87,88,89,90,104,105,106,112,113,114,115,116,121,122,131,132,134,135,136,138,139,140,141,142,144,145,146,147,148,153,155,157,159,160,161,162,163,164,165,166,167,168,169,171,172,175,176,177,178,179,180,181,183,184,185,188,189,190,191,192,193,195,196,197,198,199,200,201,202,203,204,207,209,210,211,212,213,214,215,216,217,218,219,223,224,225,226,227,228,229,230,231,232,233,234,235,236,238,239,240,241,242,243,244,245,246,247,248,249,250,251,252,254,256,257,258,259,260,261,262,264,265,266,268]
def Anv:(Lv.all λf=>UM Z Lv f)=jz:=Ab
def An8:=Aga NI λf I=>cV.1 Anv f I
def Anw:∀f,(Lv.contains f)=jz→∃u c,prog.funcs[f]? = je u∧(u.name == "runtime.NumGoroutine")=vy∧u.body=je c:=λf I=>by have ⟨u,c,C,J,T,_⟩:=An8 f (show f∈Lv by simpa using I);grind
def B1{fn}(h:opS Z (Lv.contains ·) noD fn o=jz):Pl Z (env Lv) fn o:=Af9 NI Anw (λf I=>by simpa using I) (λg e=>M2) h
section
variable {J:iH}
structure VW(J:iH)(Bs u):Prop where
 rows:Go.Pair.RowsIn Bs u
 ji:∀a,J (.cell a)->Bs a.block
 jo:∀r,J (.obj r)->∃o,u.1[r]?=je o/\o.isChan=jz
 jm:∀m,¬J (.mark m)
def VW.lt(h:VW J Bs u){i}(V:Bs i):i<iZ u.1:=by have ⟨c,e,a,h⟩:=h.1 i V;grind
def VW.low(h:VW J Bs u):Qw J u.1.size:=⟨λa d=>h.lt (h.2 a d),λr Y=>let⟨o,C,_⟩:=h.3 r Y;(aJ.1 C).1⟩
def VW.blind(h:VW J Bs u):Lf J (Bb Bs u):=λe N W=>by have ⟨l,wr,Y⟩:=e;cases l with|cell a=>have ⟨x,Z⟩:=N;have:=AQ (Gs h.1) (h.2 a W);grind|obj r=>have ⟨o,C,b⟩:=h.3 r W;have ⟨I,T,q,z⟩:=N;rw[B6,C,aI]at T;obtain rfl:=aC T;refine⟨⟨r,iW⟩,z ?_⟩;split;(cases o<;>first|exact b|cases b);exact b|mark m=>exact absurd W (h.4 m)|output=>exact N.elim|goroutines=>exact N.elim
def Z5(Bs:iG)(u v:qi):Prop:=Go.Pair.Twin (Bb Bs u) v
def Z5.size(h:Z5 Bs u v):iZ v.1=iZ u.1:=h.1▸Cz
def Z5.same(h:Z5 Bs u v){i}(D:¬Bs i):v.1[i]?=u.1[i]?:=by rw[h.1,B6];grind
def Qf{U x}(C:Z5 Bs u v)(J:De Bs u x)(T:Go.Pair.Twin x U)(q:Ax v U X)(R:x.tape=u.tape):Ax u (Cf Bs u x) X:=by have a:=C.size;(have N:iZ U.1=iZ x.1:=by rw[T.1]);refine⟨?_,R,?_,by rw[Bn];have:=q.4;omega,λk E Z=>?_⟩;show x.4=u.4;rw[←T.2,q.1,C.2];rfl;show x.5=u.5;rw[←T.3,q.3,C.3];rfl;by_cases D:Bs k;exact D7 J D;rw[Bz D,←T.1,←C.same D];exact q.5 k Aa Z
def Tc{U x}(J:De Bs u x)(T:Go.Pair.Twin x U)(D:¬Bs i):U.1[i]?=(Cf Bs u x).1[i]?:=by rw[Bz D,T.1]
def VW.kx(h:VW J Bs u)(E:∀i,Bs i->O.1[i]?=u.1[i]?)(a:∀r,J (.obj r)->O.1[r]?=u.1[r]?):VW J Bs O:=⟨λi V=>E i V▸h.1 i V,h.2,λr Y=>a r Y▸h.3 r Y,h.4⟩
def VW.ofK(h:VW J Bs u)(E:Ax u O X)(C:∀i,Bs i->¬X i)(a:∀r,J (.obj r)->¬X r):=
 h.kx (λi V=>E.block i (h.lt V) (C i V)) λr Y=>E.block r (h.low.obj r Y) (a r Y)
def Hr{f}(I:f∈Lv)(W:VW J Bs u){args:iJ}{R:iP}(t:∀r,J (.obj r)->¬X r)(H:∀v,Z5 Bs u v->Calls Z f args v λd B=>(∃x,d=.returned x/\R x B)/\Ax v B X):Ba Z e J N f args u λx O=>Ax u O X/\VW J Bs O/\∃U,(∀i,¬Bs i->U.1[i]?=O.1[i]?)/\iZ U.1=iZ O.1/\R x U:=by refine Bf (Nz An8 (show f∈Lv from I) W.1 W.blind W.low (A5 _ _) (R:=λd B=>∃v,Z5 Bs u v/\(∃x,d=.returned x/\R x B)/\Ax v B X) (λk v h=>?_) (λv h=>?_) (λv s=>(H v s).mono λd B h=>⟨v,s,h⟩)) ?_;grind;grind;exact Pjj
end
section
variable {J:iH} {I:iI} {b:Act} {M:Region.Mode} {G:xe} {x:p8} {S:Env} {l:iO}
def Mn(W:jq G (yw g b.tmps)=jz)(V:Pl Z S fn G)(j:S.reg fn b.tmps)(Y:∀h,(execOp b.eval G).run Z h=.ok (.value x) h)(he:∀h,(execOp b.eval G).events Z h #[]=#[]):YV Z J g I G x b:=
 ⟨λa=>absurd (W.symm.trans a) Ae,λ_ h _=>Te V j Y he⟩
def Gw(W:jq G (yw g b.tmps)=jz)(V:Pl Z S fn G)(j:S.reg fn b.tmps)(a:∀h,I h->Go.Pair.Yields Z (execOp b.eval G) h x h/\∀e∈(execOp b.eval G).events Z h #[],Gp J e):YV Z J g I G x b:=
 ⟨λa=>absurd (W.symm.trans a) Ae,λ_ h o=>Sb V j (a h o).1 (a h o).2⟩
def Cd{X}(H:Ba Z e J N f X h Y)(c:q7 M g done = [i])(O:g[i]?=je o)(W:jq o (yw g b.tmps)=jz)(T:o.op=.call { callee:=.value (.func f),args,argTypes:=m })(d:args.map b.eval=X)(F:∀x B,Y x B->I B/\A7 Z e J N M g Q I a (done.setIfInBounds i jz) (b.put o.dst x) B)(E:args.all (E4 prog.globals.size)=jz:=by first|rfl|(simp[E4];done)|kernel_rfl):=A7.only c (.call o f args m Y O W T E (by rwa[d]) F)
def DW(c:∀h d,I h->I (h.at d))(f:∀b h d,Q .normal b h->Q .normal b (h.at d))(O:g[i]?=je o)(W:jq o (yw g b.tmps)=jz)(V:Pl Z S fn o)(j:S.reg fn b.tmps)(Y:∀d,Go.Pair.Yields Z (execOp b.eval o) (h.at d) x (v'.at d))(he:∀d,∀k∈(execOp b.eval o).events Z (h.at d) #[],Gp J k)(H:I v')(l:A7 Z e J N M g Q I a (done.setIfInBounds i jz) (b.put o.dst x) v'):GN Z e J N g i (λm B=>I B/\A7 Z e J N M g Q I a (done.setIfInBounds i jz) m B) b h:=
 .op o O W λ_ d=>⟨x,v'.at d,Sb V j (Y d) (he d),c _ d H,A7.at c f _ _ _ _ d l⟩
def Pu(c:∀h d,I h->I (h.at d))(f:∀b h d,Q .normal b h->Q .normal b (h.at d))(G:q7 M g done = [i])(O:g[i]?=je o)(W:jq o (yw g b.tmps)=jz)(V:Pl Z S fn o)(j:S.reg fn b.tmps)(Y:∀d,Go.Pair.Yields Z (execOp b.eval o) (h.at d) x (v'.at d))(he:∀d,∀k∈(execOp b.eval o).events Z (h.at d) #[],Gp J k)(H:I v')(l:A7 Z e J N M g Q I a (done.setIfInBounds i jz) (b.put o.dst x) v'):=
 A7.only G (DW c f O W V j Y he H l)
def OA(G:q7 M g done = [i,j])(V:GN Z e J N g i (λl B=>I B/\A7 Z e J N M g Q I a (done.setIfInBounds i jz) l B) b h)(d:GN Z e J N g j (λl B=>I B/\A7 Z e J N M g Q I a (done.setIfInBounds j jz) l B) b h):A7 Z e J N M g Q I (a+1) done b h:=by refine⟨λc=>(by rw[G]at c;cases c),λk E=>?_⟩;rw[G]at E;simp at E;obtain rfl|rfl:=E;exact V;exact d
def QD{X}{K:Act->qi->Prop}(H:Ba Z e J N f X h Y)(O:g[i]?=je o)(W:jq o (yw g b.tmps)=jz)(T:o.op=.call { callee:=.value (.func f),args,argTypes:=m })(a:args.map b.eval=X)(F:∀x B,Y x B->K (b.put o.dst x) B)(E:args.all (E4 prog.globals.size)=jz:=by first|rfl|(simp[E4];done)|kernel_rfl):GN Z e J N g i K b h:=.call o f args m Y O W T E (by rwa[a]) F
def ZX(W:VW J Bs h)(G:q7 M g done = [i])(O:g[i]?=je o)(l:jq o (yw g b.tmps)=jz)(V:Pl Z S fn o)(j:S.reg fn b.tmps){R:iP}{X}(t:∀r,J (.obj r)->¬X r)(H:∀L,Z5 Bs h L->∃x p,Go.Pair.Yields Z (execOp b.eval o) L x p/\R x p/\Ax L p X)(F:∀x B p,Ax h B X->VW J Bs B->(∀i,¬Bs i->p.1[i]?=B.1[i]?)->iZ p.1=iZ B.1->R x p->I B/\A7 Z e J N M g Q I a (done.setIfInBounds i jz) (b.put o.dst x) B):A7 Z e J N M g Q I (a+1) done b h:=by refine A7.only G (.op o O l λn s=>?_);obtain⟨x,u,C,c,T,L,hs,q,z⟩:=EL (J:=J) (Bs:=Bs) V j W.1 W.blind W.low (R:=λx p=>∃L,Z5 Bs h L/\R x p/\Ax L p X) (λL hs=>let⟨x,p,m,d,f⟩:=H L hs;⟨x,p,m,L,hs,d,f⟩) s n;have K:=Qf (Bs:=Bs) hs c (.refl u) z T;exact⟨x,_,C,F x _ u K (W.kx (λi k=>D7 c k) λr Y=>K.5 r (W.low.2 r Y) (t r Y)) (λi D=>(Bz D).symm) (by rw[Bn]) q⟩
def Eo(W:VW J Bs h)(O:g[i]?=je o)(a:jq o (yw g b.tmps)=jz)(V:Pl Z S fn o)(j:S.reg fn b.tmps){R:iP}{X}(t:∀r,J (.obj r)->¬X r)(H:∀L,Z5 Bs h L->∃x p,Go.Pair.Yields Z (execOp b.eval o) L x p/\R x p/\Ax L p X)(F:∀x B p,Ax h B X->VW J Bs B->(∀i,¬Bs i->p.1[i]?=B.1[i]?)->iZ p.1=iZ B.1->R x p->opsV Z e J N fn g l Q (b.put o.dst x) B):=
 Abs (S:=S) (Bs:=Bs) O a V j W.1 W.blind W.low (R:=λx p=>∃L,Z5 Bs h L/\R x p/\Ax L p X) (λL hs=>let⟨x,p,m,d,f⟩:=H L hs;⟨x,p,m,L,hs,d,f⟩) λx u c T⟨L,hs,q,z⟩=>
  have K:=Qf (Bs:=Bs) hs c (.refl u) z T
  F x _ u K (W.kx (λi k=>D7 c k) λr Y=>K.5 r (W.low.2 r Y) (t r Y)) (λi D=>(Bz D).symm) (by rw[Bn]) q
def A0{X a}(H:Ba Z e J N f X h a)(O:g[i]?=je o)(W:jq o (yw g b.tmps)=jz)(T:o.op=.call { callee:=.value (.func f),args,argTypes:=m })(c:args.map b.eval=X)(F:∀v B,a v B->opsV Z e J N fn g l Q (b.put o.dst v) B)(E:args.all (E4 prog.globals.size)=jz:=by first|rfl|(simp[E4];done)|kernel_rfl):=IU O W T (by rwa[c]) F E
end
def na:(∀l:List F,l.toArray.size=iY l)/\(∀(a:F) l,(a::l).length=iY l+1)/\([]:iK).length=0/\(∀n (a:F),o2 (n+1) a=(o2 n a).push a)/\(∀a:F,o2 0 a=#[])/\(∀(l:iK) a,l.toArray.push a=(l++[a]).toArray)/\(∀l m:List F,l.toArray++m.toArray=(l++m).toArray)/\(∀l:List F,[]++l=l)/\∀(a:F) l m,a::l++m=a::(l++m):=by refine⟨?_,?_,?_,?_,?_,?_,?_,?_,?_⟩<;>intros<;>first|rfl|exact dL|simp
section
variable {J:iH} {b:Act} {l:iO}
def Ay(a:opsV P e J N f g l Q b h)(K:me g.size=l:=by(simp only[bD,aW,aR,Nat.reduceAdd,aY,List.range,List.range.loop];exact iW)):Kk P e J N f (.region n g vy) Q b h:=Qq (K▸a)
def Ar{x}(a:opsV Tryz.prog e J N f g l Q (b.put o.dst x) h)(O:g[i]?=some o:=by exact iW)(W:Region.wanted o (yielded g b.tmps)=true:=by rfl)(V:Pl Tryz.prog (env Lv) f o:=by exact B1 Ab)(Y:∀h,(execOp b.eval o).run Tryz.prog h=.ok (.value x) h:=by(intro c;first|rfl|(go_simp;done)|(go_simp;rfl)))(he:∀h,(execOp b.eval o).events Tryz.prog h #[]=#[]:=by(intro c;first|rfl|(go_simp;done)|(go_simp;rfl))):=Gm (S:=env Lv) O W V (A5 _ _) Y he a
def Cj(x)(a:opsV Tryz.prog e J N f g l Q (b.put o.dst x) h)(O:g[i]?=some o:=by exact iW)(W:Region.wanted o (yielded g b.tmps)=true:=by rfl)(V:Pl Tryz.prog (env Lv) f o:=by exact B1 Ab)(Y:∀h,(execOp b.eval o).run Tryz.prog h=.ok (.value x) h:=by(intro c;first|rfl|(go_simp;done)|(go_simp;kernel_rfl)|(go_simp;rfl)))(he:∀h,(execOp b.eval o).events Tryz.prog h #[]=#[]:=by(intro c;first|rfl|(go_simp;done)|(go_simp;rfl))):=Gm (S:=env Lv) O W V (A5 _ _) Y he a
def B8{u x p}(M:u.cell? p=some x)(h:¬J (.cell p))(j:opsV Tryz.prog e J N f g l Q (b.put o.dst x) u)(O:g[i]?=some o:=by exact iW)(W:Region.wanted o (yielded g b.tmps)=true:=by rfl)(V:Pl Tryz.prog (env Lv) f o:=by exact B1 Ab)(Y:∀d,(u.at d).cell? p=some x->(execOp b.eval o).run Tryz.prog (u.at d)=.ok (.value x) (u.at d):=by(intro k a;walk_nrm;go_simp))(he:¬J (.cell p)->∀d,(u.at d).cell? p=some x->∀m∈(execOp b.eval o).events Tryz.prog (u.at d) #[],Gp J m:=by(intro n k a;walk_nrm;intro D c;simp[go_sem,a]at c;subst c;exact Co n)):=Dq (S:=env Lv) O W V (A5 _ _) (λd=>.inl (Y d M)) (λd=>he h d M) j
def Dw{u}(cs I)(h:opsV Tryz.prog e J N f g l Q (b.put o.dst (.pointer (some ⟨iZ u.1,0,none⟩))) (u.alloc (.cells cs I)))(O:g[i]?=some o:=by exact iW)(W:Region.wanted o (yielded g b.tmps)=true:=by rfl)(V:Pl Tryz.prog (env Lv) f o:=by exact B1 Ab)(Y:∀d,(execOp b.eval o).run Tryz.prog (u.at d)=.ok (.value (.pointer (some ⟨iZ u.1,0,none⟩))) ((u.alloc (.cells cs I)).at d):=by(intro a;walk_nrm;go_simp;first|done|rfl|exact⟨iW,iW⟩))(he:∀d,∀c∈(execOp b.eval o).events Tryz.prog (u.at d) #[],Gp J c:=by(intro a;walk_nrm;intro D j;simp[go_sem]at j)):opsV Tryz.prog e J N f g (i::l) Q b u:=Dq (S:=env Lv) O W V (A5 _ _) (λd=>.inl (Y d)) he h
end
def A7.tp{J}{b:Goroutine->World->Prop}{g}{I:World->Prop}{a w M}{Q:Exit->Act->World->Prop}{G x d}(i)(o:∀w e,I w->I (w.at e))(f:∀a w e,Q .normal a w->Q .normal a (w.at e))(H:I w)(h:A7 Tryz.prog d J b M g Q I c (done.setIfInBounds i true) (a.put G.dst x) w)(V:g[i]?=some G:=by exact iW)(hs:Region.noSelect g=true:=by kernel_rfl)(j:Region.free M g done i=true:=by kernel_rfl)(Y:(Region.ready M g done).contains i=true:=by kernel_rfl)(W:Region.wanted G (yielded g a.tmps)=true:=by rfl)(k:Pl Tryz.prog (env Lv) 0 G:=by exact B1 Ab)(Z:∀w,(execOp a.eval G).run Tryz.prog w=.ok (.value x) w:=by(intro l;first|rfl|(go_simp;done)|(go_simp;rfl)))(he:∀w,(execOp a.eval G).events Tryz.prog w #[]=#[]:=by(intro l;first|rfl|(go_simp;done)|(go_simp;rfl))):A7 Tryz.prog d J b M g Q I (c+1) done a w:=A7.take o f V hs j Y (Mn (S:=env Lv) W k (A5 _ _) Z he) H h
def A7.tl{J}{b:Goroutine->World->Prop}{g}{I:World->Prop}{a w M}{Q:Exit->Act->World->Prop}{G d x p}(i)(o:∀w e,I w->I (w.at e))(k:∀a w e,Q .normal a w->Q .normal a (w.at e))(H:I w)(f:∀w,I w->w.cell? p=some x)(l:¬J (.cell p))(m:A7 Tryz.prog d J b M g Q I c (done.setIfInBounds i true) (a.put G.dst x) w)(V:g[i]?=some G:=by exact iW)(hs:Region.noSelect g=true:=by kernel_rfl)(n:Region.free M g done i=true:=by kernel_rfl)(Y:(Region.ready M g done).contains i=true:=by kernel_rfl)(W:Region.wanted G (yielded g a.tmps)=true:=by rfl)(q:Pl Tryz.prog (env Lv) 0 G:=by exact B1 Ab)(Z:∀w,w.cell? p=some x->(execOp a.eval G).run Tryz.prog w=.ok (.value x) w:=by(intro r h;walk_nrm;go_simp))(he:∀w,w.cell? p=some x->¬J (.cell p)->∀s∈(execOp a.eval G).events Tryz.prog w #[],Gp J s:=by(intro r h t;walk_nrm;intro D j;simp[go_sem,h]at j;subst j;exact Co t)):A7 Tryz.prog d J b M g Q I (c+1) done a w:=A7.take o k V hs n Y (Gw (S:=env Lv) W q (A5 _ _) λw W=>⟨zk (Z w (f w W)),he w (f w W) l⟩) H m
section
variable {J:iH} {tl:Bool} {l:iE}
def Bo(h:v.1[b]?=u.1[b]?):v.cell? (iR b j)=u.cell? (iR b j):=by unfold yg;rw[h]
def N4(h:v.1[b]?=u.1[b]?):v.frozen? (iR b j)=u.frozen? (iR b j):=by unfold ue;rw[h]
def Eb{L:qi}{X:iK}(h:u.ownsRow 0 5 1 d n X)(E:∀g,d.ownBlock=je g->L.1[g]?=u.1[g]?):L.ownsRow 0 5 1 d n X:=by obtain⟨F,C|⟨g,I,H,rfl,J,T,q⟩⟩:=h;exact⟨F,zk C⟩;exact⟨F,qx ⟨g,I,H,iW,J,by rwa[E g iW],q⟩⟩
def Dj{X:iK}(h:u.ownsRow 0 5 1 d n X){g}(G:d.ownBlock=je g):g<iZ u.1:=by obtain⟨_,⟨rfl,_⟩|⟨R,I,H,rfl,_,T,_⟩⟩:=h;cases G;(obtain rfl:R=g:=by simpa[Value.ownBlock] using G);exact ltOf T
def OG{r}(h:Bytes w b off r)(F:0<iY r):b<iZ w.1:=by have g:=h 0 F;exact Tdr
def Vn{r}(h:Bytes u b off r)(K:Ax u O X)(t:¬X b):Bytes O b off r:=λi V=>(Bo (K.block b (OG h Aa) t)).trans (h i V)
def Bi(w)(cs:iJ)(I X):Ax w (w.alloc (pf cs I)) X:=Ax.of_below (Bg _ _) (aA _)
def VW.alloc(W:VW J Bs w)(cs:iJ)(I):=W.ofK (Bi w cs I λ_=>False) (λ_ _ h=>h) λ_ _ h=>h
def VW.at(W:VW J Bs u)(d):VW J Bs (u.at d):=⟨W.rows,W.2,W.3,W.4⟩
def Ax.at(h:Ax u O X)(d):Ax u (O.at d) X:=⟨h.os,h.tape,h.output,h.size,h.block⟩
def Ax.ofAt{d}(h:Ax (u.at d) O X):Ax u O X:=⟨h.os,h.tape,h.output,h.size,h.block⟩
def Gk(w b j x):Ax w (w.setCell (iR b j) x) (· = b):=
 ⟨T,T,T,Ae,λk E Z=>E1 _ _ Z⟩
def Ahj{x}(h:Go.Pair.RowsIn Bs w):Go.Pair.RowsIn Bs (w.setCell (iR b j) x):=λi V=>by have ⟨c,e,a,C⟩:=h i V;by_cases D:i=b;refine⟨c.setIfInBounds j x,e,a,?_⟩;rw[World.setCell];grind;exact⟨c,e,a,by rwa[E1 _ _ D]⟩
def I9(c:iJ):Prop:=∀x∈c,∀m,A2 m x=x
def I9.map{c}(h:I9 c)(m):c.map (A2 m)=c:=by refine bZ λi=>?_;rw[aM];cases V:c[i]? with|none=>rfl|some x=>rw[aI,h x (cN V)]
def IntsIn(u:qi)(d:F):Prop:=∀g cc,d.ownBlock=je g->u.1[g]?=je (pf cc 5 (0,0))->I9 cc
structure Nw(J Bs u sb U d tl)(l:iE):Prop where
 W:VW J Bs u
 inb:Bs sb
 j0:¬J (.cell (iR sb U))
 j1:¬J (.cell ⟨sb,U+1,zt⟩)
 c0:u.cell? (iR sb U)=je d
 c1:u.cell? ⟨sb,U+1,zt⟩=je (o0 tl)
 f0:u.frozen? (iR sb U)=vy
 f1:u.frozen? ⟨sb,U+1,zt⟩=vy
 own:u.ownsRow 0 5 1 d (iY l) (A4 l)
 ap:∀g,d.ownBlock=je g->¬Bs g
 ints:IntsIn u d
def Nw.at(C:Nw J Bs u sb U d tl l)(a):Nw J Bs (u.at a) sb U d tl l:=⟨C.W.at a,C.inb,C.j0,C.j1,C.c0,C.c1,C.f0,C.f1,C.own,C.ap,C.ints⟩
def Nw.kx(C:Nw J Bs u sb U d tl l)(K:Ax u O X)(W:VW J Bs O)(t:¬X sb)(H:∀g,d.ownBlock=je g->¬X g):Nw J Bs O sb U d tl l:=
 have e:=K.block sb (C.W.lt C.inb) t
 ⟨W,C.inb,C.j0,C.j1,(Bo e).trans C.c0,(Bo e).trans C.c1,(N4 e).trans C.f0,(N4 e).trans C.f1,Eb C.own λg G=>K.block g (Dj C.own G) (H g G),C.ap,λg a G h=>C.ints g a G ((K.block g (Dj C.own G) (H g G)).symm.trans h)⟩
def Nw.slice(C:Nw J Bs u sb U d tl l):∃a c,d=xh a (iY l) c:=by obtain⟨_,⟨rfl,h⟩|⟨g,I,H,rfl,_⟩⟩:=C.9;grind;exact⟨_,_,T⟩
def Yd(h:w.ownsRow 0 5 1 d (iY l) (A4 l))(F:0<iY l):∃g I,d=xh (je (iQ g)) (iY l) I/\iY l<=I/\Bytes w g 0 l:=by obtain⟨_,⟨_,C⟩|⟨g,I,H,rfl,_,D,M,L,s,R⟩⟩:=h;omega;refine⟨g,I,T,M,λi V=>?_⟩;(have a1:(H.1.take (iY l * 1))[i]?=je (wy ry l[i].toNat):=by rw[R];simp[A4,aG V]);rw[dK Aa,cO]at a1;rw[aY];exact cellOf D a1
def Io(l:iE):Int:=if iY l<4 then 4 - iY l else 4+uns (l.take 4) - iY l
def lenOf(l:iE):Nat:=if iY l<4 then 0 else uns (l.take 4)
def Afr(l):lenOf l<4294967296:=by rw[lenOf];split;omega;have:=uns_lt (l.take 4);grind
def Rh(w X)(a:iM)(d I:Nat)(h:Int)(F:0<=h)(C:h<=I):(Instr.sliceAt 35 (xh a d I) zt (je (iS h)) zt).events Z w X=X:=by exact L7e
def Y5(w X)(a:iM)(b I:Nat)(l:Int)(F:0<=l)(C:l<=b):(Instr.sliceAt 35 (xh a b I) (je (iS l)) zt zt).events Z w X=X:=by exact L7e
def YE(C:Nw J Bs u sb U d tl l):Ba ow e J N 105 #[vp (je (iR sb U))] u λy O=>y=wy .u64 (lenOf l)/\Ax u O iV/\Nw J Bs O sb U d tl l:=by obtain⟨F,k,rfl⟩:=C.slice;have c0:=C.5;refine Bh func105 Ac T (R:=λE=>E.getD 2 re) (λ_ _=>ump Ac _ _ _) (λ_ _=>lhy Ac _ _) ?_;simp only[ntmps105,na,Nat.reduceAdd,Nat.reduceSub];refine G9s ?_;refine T03 ?_;refine N2m ?_;refine Trb ?_;refine B8 c0 C.3 ?_;walk_nrm;refine V2g ?_;by_cases q:iY l<4;have S:(iY l:Int)<4:=Aa;refine T03 ?_;refine Qp5 ?_;refine G9s ?_;refine T03 ?_;refine Ca ?_;simp only[Az];exact⟨qx trivial,trivial,by unfold lenOf;rw[aL q];rfl,.refl _ _,C⟩;have S:¬(iY l:Int)<4:=Aa;refine T03 ?_;refine A3 (t:=vy) GG ?_;simp only[cB,aX];refine Pv2 ?_;obtain⟨a,b,Q,M,a1⟩:=Yd C.9 Aa;cases Q;have z:(4:Int)<=(k:Int):=Aa;refine G9s ?_;refine Trb ?_;refine B8 c0 C.3 ?_;walk_nrm;refine Gm (S:=env Lv) (x:=xh (je (iQ a)) 4 k) T Ac (B1 Ab) (A5 _ _) Ami (λj=>by have I:=λX=>Rh j X (je (iQ a)) (iY l) k 4 Aa z;go_simp;first|done|rfl) ?_;walk_nrm;refine A0 (Hr (f:=153) (args:=#[xh (je (iQ a)) 4 k]) Ad C.W (X:=λ_=>False) (R:=λx _=>x=wy .u64 (uns (l.take 4))) (λ_ _ Z=>Z) λL hs=>?_) T Ac T Af ?_;exact(Gu L a 0 4 k (l.take 4) Ai Aa λi V=>by (have f:i<iY l:=by simp at V;omega);rw[gI];exact(Bo (hs.same (C.ap a T))).trans (a1 i f)).mono λQ g Z=>⟨⟨_,Z.1,T⟩,by rw[Z.2];exact Ax.refl _ _⟩;rintro y c⟨H,P,_,_,_,rfl⟩;walk_nrm;refine T03 ?_;exact Ca ⟨qx T,T,by unfold lenOf;rw[aO q];rfl,H,C.kx H P (λZ=>Z) λ_ _ Z=>Z⟩
def PW(C:Nw J Bs u sb U d tl l)(K:iY l<=5000):Ba ow e J N 104 #[vp (je (iR sb U))] u λy O=>y=iS (Io l)/\Ax u O iV/\Nw J Bs O sb U d tl l:=by
 obtain⟨F,c,rfl⟩:=C.slice;have c0:=C.5;have W:∀x:Int,-9223372036854775808<=x->x<=9223372036854775807->IntKind.i64.wrap x=x:=λx m p=>by rw[IntKind.wrap_i64];omega
 refine Bh func104 Ac T (R:=λE=>E.getD 2 re) (λ_ _=>ump Ac _ _ _) (λ_ _=>lhy Ac _ _) ?_;simp only[ntmps104,na,Nat.reduceAdd,Nat.reduceSub];refine G9s ?_;refine T03 ?_;refine N2m ?_;refine Trb ?_;refine B8 c0 C.3 ?_;walk_nrm;refine V2g ?_;by_cases q:iY l<4;have S:(iY l:Int)<4:=Aa;refine T03 ?_;refine Qp5 ?_;refine G9s ?_;refine Trb ?_;refine B8 c0 C.3 ?_;walk_nrm;refine Trb ?_;refine K9h ?_;refine Ca ?_;simp only[Az];exact⟨qx trivial,trivial,by unfold Io;rw[aL q];show Value.int _ (IntKind.i64.wrap _)=_;rw[W _ Aa Aa],.refl _ _,C⟩;have S:¬(iY l:Int)<4:=Aa;refine T03 ?_;refine A3 (t:=vy) GG ?_;simp only[cB,aX];refine Pv2 ?_;have r:=Afr l;refine Av ?_;have o:∀(w:qi)(f:Nat),w.cell? (iR sb U)=je (xh F (iY l) c)->(w.at f).cell? (iR sb U)=je (xh F (iY l) c):=λ_ _ h=>h;refine Fe (Q:=λg a B=>g=.normal/\a.2 = []/\a.1[2]?.getD re=iS (Io l)/\Ax u B iV/\Nw J Bs B sb U (xh F (iY l) c) tl l) ?_ λg a B h=>by obtain⟨rfl,h⟩:=h;simp only[Az];exact Ca ⟨qx T,h⟩
 have b:∀(a:Act)(w:qi)(f:Nat),((yv=yv)/\a.2 = []/\a.1[2]?.getD re=iS (Io l)/\Ax u w iV/\Nw J Bs w sb U (xh F (iY l) c) tl l)->((yv=yv)/\a.2 = []/\a.1[2]?.getD re=iS (Io l)/\Ax u (w.at f) iV/\Nw J Bs (w.at f) sb U (xh F (iY l) c) tl l):=λa w f⟨i,j,z,G,X⟩=>⟨i,j,z,G.at f,X.at f⟩;refine Es (I:=λw=>w.cell? (iR sb U)=je (xh F (iY l) c)) Ac λk=>?_;refine A7.tp 0 o b c0 ?_;walk_nrm;refine A7.tp 4 o b c0 ?_;walk_nrm;refine A7.tp 5 o b c0 ?_;walk_nrm;refine A7.tp 6 o b c0 ?_;walk_nrm;refine A7.tl 7 o b c0 (λw (h:w.cell? (iR sb U)=je (xh F (iY l) c))=>h) C.3 ?_;walk_nrm;refine A7.tp 8 o b c0 ?_;walk_nrm;refine Cd (i:=1) (YE (C.at k)) Ab T Ac T Af ?_;rintro y Z⟨rfl,H,n⟩;refine⟨n.5,?_⟩;walk_nrm;refine A7.tp 2 o b n.5 ?_;walk_nrm;refine A7.tp 3 o b n.5 ?_;walk_nrm;refine A7.tp 9 o b n.5 ?_;walk_nrm;refine A7.tp 10 o b n.5 ?_;walk_nrm;refine A7.all Ab ⟨T,T,?_,H.ofAt,n⟩ _;show Value.int _ _=_;unfold Io;rw[aO q];have s:(lenOf l:Int)=uns (l.take 4):=by unfold lenOf;rw[aO q]
 rw[←s,W (lenOf l:Int) Aa Aa,W (4+(lenOf l:Int)) Aa Aa,W _ Aa Aa]
def M8(x o j cap:Nat):Option Addr:=if cap=j then je (iR x o) else je ⟨x,o+j,zt⟩
def Apw(C:Nw J Bs u sb U d tl l)(h4:4<=iY l)(hl:iY l<=5000):Ba ow e J N 106 #[vp (je (iR sb U))] u λy O=>y=xh (je (iQ u.1.size)) (iY l - 4) (iY l - 4)/\O.1[iZ u.1]?=je (pf (A4 (l.drop 4)).toArray 5)/\Ax u O iV/\Nw J Bs O sb U d tl l:=by
 obtain⟨a,k,rfl,hc,R⟩:=Yd C.9 Aa;have c0:=C.5;obtain⟨o,Tz,v,B,T⟩:=info_parts Tryz.info5;have ab:IntKind.i64.wrap ((iY l:Int) - 4)=iY l - 4:=by rw[IntKind.wrap_i64];omega
 have D:(A4 (l.drop 4)).length=iY l - 4:=by simp[A4]
 refine Bh func106 Ac iW (R:=λE=>E.getD 2 re) (λ_ _=>ump Ac _ _ _) (λ_ _=>lhy Ac _ _) ?_;simp[ntmps106,na,Nat.reduceAdd,Nat.reduceSub];refine G9s ?_;refine T03 ?_;refine G9s ?_;refine Trb ?_;refine B8 c0 C.3 ?_;walk_nrm;refine V2g ?_;refine Cj (iS ((iY l:Int) - 4)) ?_;walk_nrm;refine Eo (i:=6) (S:=env Lv) C.W iW Ac (B1 Ab) (A5 _ _) (X:=λ_=>False) (R:=λx s=>x=xh (je (iQ u.1.size)) (iY l - 4) (iY l - 4)/\s.1[iZ u.1]?=je (pf (hsv #[Value.int ry 0] (iY l - 4)) 5)) (λ_ _ t=>t) (λw hs=>?_) ?_;have F:=run_make (P:=ow) w 35 5 o _ und Tz v .i64 .i64 ((iY l:Int) - 4) ((iY l:Int) - 4) Aa Aa (by rw[T];omega) Aa;rw[show((iY l:Int) - 4).toNat=iY l - 4 by omega,B,fN]at F;refine⟨xh (je (iQ w.1.size)) (iY l - 4) (iY l - 4),w.alloc (pf (hsv #[Value.int ry 0] (iY l - 4)) 5),zk ?_,⟨by rw[hs.size],hs.size▸iy _ _⟩,Bi _ _ _ _⟩;walk_nrm;go_simp;rintro y u1 p h S V m⟨rfl,A⟩;have c:=C.kx h S (λt=>t) λ_ _ t=>t;have W:¬Bs u.1.size:=λt=>by have:=C.W.lt t;omega
 rw[V _ W]at A;have Y:=Vn R h λt=>t;clear V m p;walk_nrm;refine T03 ?_;refine G9s ?_;refine Ldr ?_;refine B8 c.5 C.3 ?_;walk_nrm;have z:(4:Int)<=(iY l:Int):=Aa;have h6:(iY l:Int)<=(k:Int):=Aa;refine Gm (S:=env Lv) (x:=xh (M8 a 0 4 k) (iY l - 4) (k - 4)) iW Ac (B1 Ab) (A5 _ _) Ami (λj=>by have I:=λX=>Y5 j X (je (iQ a)) (iY l) k 4 Aa z;go_simp;first|done|rfl) ?_;walk_nrm;obtain⟨q,a1,a6⟩:∃q,M8 a 0 4 k=je (iR a q)/\(4<iY l->q=4):=by rw[M8];split;exact⟨0,iW,λ_=>Aa⟩;exact⟨4,iW,λ_=>rfl⟩
 rw[a1];refine Eo (i:=6) (S:=env Lv) c.W iW Ac (B1 Ab) (A5 _ _) (X:=λi=>i=iZ u.1) (R:=λx s=>s.1[iZ u.1]?=je (pf (A4 (l.drop 4)).toArray 5)) (λad hr t=>?_) (λw hs=>?_) ?_;subst t;obtain⟨ae,G,a7⟩:=c.W.3 _ hr;rw[A]at G;obtain rfl:=aC G;cases a7;have H:w.1[iZ u.1]?=je (pf (hsv #[Value.int ry 0] (iY l - 4)) 5):=(hs.same W).trans A;have K:=run_copy_row (P:=ow) w 35 35 3 5 u.1.size 0 (iY l - 4) (iY l - 4) (iR a q) (iY l - 4) (k - 4) _ 5 (A4 (l.drop 4)) und (by rw[Tz];simp[B]) H (D▸(Nat.min_self _).symm) (λr x b=>by (have a8:r<(l.drop 4).length:=by have:=(aF.1 b).1;simpa[A4] using this);(have P:4+r<iY l:=by simp at a8;omega);have L:=Y (4+r) P;(have e2:x=wy ry (l[4+r].toNat):=by simp[A4,aV,List.getElem?_drop,aG P,aI,aU]at b;exact b.symm);rw[Addr.add_lit,e2,a6 Aa];rw[aY]at L;exact(Bo (hs.same (C.ap a iW))).trans L) (by rw[D,size_madeCells];omega) (λx Z=>by obtain⟨y,_,rfl⟩:=aZ.1 Z;rfl);have e1:(List.take 0 (hsv #[Value.int ry 0] (iY l - 4)).1++A4 (l.drop 4)++List.drop (0+(A4 (l.drop 4)).length) (hsv #[Value.int ry 0] (iY l - 4)).1).toArray=(A4 (l.drop 4)).toArray:=by congr 1;rw[toList_madeCells_one,List.drop_replicate,D,show iY l - 4 - (0+(iY l - 4))=0 by omega];simp
 rw[e1]at K;refine⟨_,_,zk (by walk_nrm;rw[execOp];simp[resolve,invoke,builtin,bvb,Sem.run_pure,Result.andThen_ok,cD,bF,cM];walk_nrm;rw[K];rfl),?_,?_⟩;exact setRow_heap _ _ _ _ _ _ H;exact⟨iW,iW,iW,Ae,λf n Z=>setRow_other _ _ _ _ Z⟩;rintro y u2 L2 g W2 aa af M;rw[aa _ W]at M;have C2:=c.kx g W2 (λQ=>by have:=C.W.lt C.2;omega) λg' hg Q=>by have:=Dj C.9 hg;omega
 walk_nrm;refine K9h ?_;refine G9s ?_;refine Wad ?_;refine K9h ?_;exact Ca (⟨qx iW,iW,iW,M,⟨g.1.trans h.1,g.2.trans h.2,g.3.trans h.3,aD h.4 g.4,λf n _=>(g.5 f (aB n h.4) λQ=>Aa).trans (h.5 f n λt=>t)⟩,C2⟩)
end
structure Zz(p):Prop where
 pos:0<Io p
 len:lenOf p<=1000
def nn(p bs:iE):Nat:=if(iY bs:Int)<Io p then iY bs else(Io p).toNat
def E3(p bs:iE):iE:=p++bs.take (nn p bs)
def AZ:Zz []:=⟨Ad,Ad⟩
def Iw(p):Io p=if iY p<4 then 4 - (iY p:Int) else 4+lenOf p - iY p:=by rw[Io,lenOf];grind
def Zz.lt{p}(h:Zz p):iY p<1004:=by have C:=h.1;have J:=h.2;rw[Iw]at C;split at C<;>omega
def An4{p}(h:Zz p)(D:W≠[]):0<nn p W:=by have:=eV.2 D;have:=h.1;rw[nn];split<;>omega
def Al4(p W):nn p W<=iY W:=by rw[nn];split<;>omega
def An3{p bs:iE}(h:Zz p):(if(iY bs:Int)<Io p then(iY bs:Int) else Io p)=(nn p bs:Int):=by have:=h.1;rw[nn];split<;>omega
def YM{p bs}(h:Zz p):(nn p bs:Int)<=Io p:=by have:=h.1;rw[nn];split<;>omega
def X4{p bs}:(E3 p bs).length=iY p+nn p bs:=by have:=Al4 p bs;simp[E3];omega
def PY{p bs}(h:Zz p):(E3 p bs).length<=1004:=by have C:=h.2;have J:=YM (bs:=bs) h;rw[Iw]at J;rw[X4];split at J<;>omega
def UZ{p bs}(h:Zz p):0<=Io (E3 p bs):=by have J:=YM (bs:=bs) h;have T:=X4 (p:=p) (bs:=bs);rw[Iw]at J;rw[Iw];split;omega;rename_i q;by_cases Q:iY p<4;omega;(have:lenOf (E3 p bs)=lenOf p:=by unfold lenOf;rw[aO q,aO Q];congr 1;rw[E3];grind);omega
def Af2{p}(h:Zz p)(K:lenOf (E3 p bs)<=1000)(L:Io (E3 p bs)≠0):Zz (E3 p bs):=⟨by have:=UZ (bs:=bs) h;omega,K⟩
def Ac7{p}(L:Io p=0):4<=iY p:=by rw[Iw]at L;split at L<;>omega
inductive Hf:iE->iE->List (iE)->iE->Bool->Prop
 |done (p:iE):Hf p [] [] p vy
 |long {p bs:iE}:bs≠[]->1000<lenOf (E3 p bs)->Hf p bs [] [] jz
 |body {p bs:iE} {Hh:iC} {q} {t}:bs≠[]->lenOf (E3 p bs)<=1000->Io (E3 p bs)=0->Hf [] (bs.drop (nn p bs)) Hh q t->Hf p bs ((E3 p bs).drop 4::Hh) q t
 |more {p bs:iE} {Hh:iC} {q} {t}:bs≠[]->lenOf (E3 p bs)<=1000->Io (E3 p bs)≠0->Hf (E3 p bs) (bs.drop (nn p bs)) Hh q t->Hf p bs Hh q t
def Code.one:gj->gj|.seq x _=>x|c=>c
def Code.two:gj->gj|.seq _ x=>x|c=>c
def Code.core:gj->gj|.block _ x=>x|.loop x=>x|c=>c
def Code.yes:gj->gj|.cond _ x _=>x|c=>c
def Code.opsOf:gj->Array xe|.region _ ops _=>ops|_=>#[]
noncomputable def Jk:gj:=match f61.body with|some c=>c|none=>.skip
noncomputable def Jz:gj:=Code.core (Code.core Jk)
noncomputable def Am3:gj:=Code.one Jz
noncomputable def I1:gj:=Code.core (Code.two Jz)
noncomputable def Ajg:gj:=Code.one I1
noncomputable def Ajh:gj:=Code.one (Code.two I1)
noncomputable def Aji:gj:=Code.one (Code.two (Code.two I1))
noncomputable def Ajj:gj:=Code.one (Code.two (Code.two (Code.two I1)))
noncomputable def Aal:gj:=Code.two (Code.two (Code.two (Code.two I1)))
noncomputable def Ajk:gj:=Code.one Aal
noncomputable def OQ:gj:=Code.yes (Code.two Aal)
noncomputable def Ajl:gj:=Code.one OQ
noncomputable def Ajm:gj:=Code.two OQ
noncomputable def AP:gj:=.cond (.tmp 40) (.seq Ajl Ajm) .skip
noncomputable def Rb:gj:=.seq Am3 (.block 1 (.seq Ajg (.seq Ajh (.seq Aji (.seq Ajj (.seq Ajk AP))))))
def Am4:Jk=.block 0 (.loop Rb):=T
noncomputable def Abq:Array xe:=Code.opsOf Ajl
noncomputable def Dl(c b ch n:F)(u:iL):Act:=
 {tmps:=#[c,b,ch,re,re,re,n,u 7,u 8,u 9,u 10,u 11,u 12,u 13,u 14,u 15,u 16,u 17,u 18,u 19,u 20,u 21,u 22,u 23,u 24,u 25,u 26,u 27,u 28,u 29,u 30,u 31,u 32,u 33,u 34,u 35,u 36,u 37,u 38,u 39,u 40,u 41,u 42,u 43,u 44,u 45,u 46,u 47,u 48,u 49,u 50,u 51],defers:=[] }
def Kp{c b j n}(a)(h:a=Dl c b j n λi=>a.tmps.getD i re):∃u,a=Dl c b j n u:=⟨_,h⟩
def UG(x y w):(Builtin.min_ #[3,3] 3 #[iS x,iS y]).events Z w #[]=#[]:=by simp[Builtin.min_,Builtin.min2,List.foldlM]
section
variable {J:iH} {c:iG} {h:Nat} {tl:Bool} {l:iE}
def VW.set(W:VW J c w)(b j x):VW J c (w.setCell (iR b j) x):=by refine⟨Ahj W.1,W.2,λr Y=>?_,W.4⟩;have ⟨o,C,a⟩:=W.3 r Y;by_cases D:r=b;subst D;have K:=ltOf C;rw[aN K]at C;refine⟨o,?_,a⟩;rw[World.setCell,aN (by simpa using K)];simp[Array.getElem_modify_self];rw[aC C];(cases o<;>first|rfl|cases a);exact⟨o,by rwa[E1 _ _ D],a⟩
def Nw.part(C:Nw J c u h U d tl l){pv'}{l':iE}(b:u.ownsRow 0 5 1 pv' (iY l') (A4 l'))(a:∀g,pv'.ownBlock=je g->¬c g)(T:IntsIn u pv'):Nw J c (u.setCell (iR h U) pv') h U pv' tl l':=
 ⟨C.W.set _ _ _,C.inb,C.j0,C.j1,gh _ _ _ C.c0,(gn _ _ _ _ Ae).trans C.c1,(st3 _ _ _ _).trans C.f0,(st3 _ _ _ _).trans C.f1,Eb b λg G=>E1 _ _ λe=>a g G (e▸C.inb),a,λg O G f=>T g O G ((E1 (iR h U) pv' (fun(e:g=h)=>a g G (e▸C.inb))).symm.trans f)⟩
def Nw.flag(C:Nw J c u h U d tl l)(t):Nw J c (u.setCell ⟨h,U+1,zt⟩ (o0 t)) h U d t l:=
 ⟨C.W.set _ _ _,C.inb,C.j0,C.j1,(gn _ _ _ _ Ae).trans C.c0,gh _ _ _ C.c1,(st3 _ _ _ _).trans C.f0,(st3 _ _ _ _).trans C.f1,Eb C.own λg G=>E1 _ _ λe=>C.ap g G (e▸C.inb),C.ap,λg O G a=>C.ints g O G ((E1 ⟨h,U+1,zt⟩ (o0 t) (fun(e:g=h)=>C.ap g G (e▸C.inb))).symm.trans a)⟩
structure Src(c:iG)(u a bv)(bs:iE):Prop where
 nb:¬c a
 at':∃ba cap,bv=xh ba (iY bs) cap/\iY bs<=cap/\(bs≠[]->∃off,ba=je (iR a off)/\Bytes u a off bs)
def Src.kx{X T}(h:Src c u a T W)(K:Ax u O X)(t:¬X a):Src c O a T W:=by have ⟨L,I,C,J,b⟩:=h.2;exact⟨h.1,L,I,C,J,λD=>let⟨off,q,z⟩:=b D;⟨off,q,Vn z K t⟩⟩
def Alv(L:iM)(y f c j n x):Kk Z e J N 61 Am3 (λa l O=>a=(if 0<y then .normal else .exit 0)/\(∃b,l=Dl c (xh L y f) j n b)/\O=u) (Dl c (xh L y f) j n x) u:=by simp only[Am3,Jz,Jk,Code.core,Code.one,slj,Dl];refine G9s ?_;refine Trb ?_;refine K9h ?_;by_cases D:0<y;have S:(0:Int)<(y:Int):=Aa;refine Qp5 ?_;refine Pv2 ?_;exact⟨by rw[aL D],Kp _ T,Air⟩;refine A3 (t:=vy) W9 ?_;simp only[cB,aX];refine Kd ?_;simp only[Az];exact⟨by rw[aO D],Kp _ T,Air⟩
def Ap1(C:Nw J c u h U d tl l)(K:Zz l)(L:iM)(bs:iE)(f j n x):Kk Z e J N 61 Ajg (λb i O=>b=.normal/\(∃k,i=Dl (vp (je (iR h U))) (xh L (iY bs) f) j (iS (nn l bs)) k)/\Ax u O iV/\Nw J c O h U d tl l) (Dl (vp (je (iR h U))) (xh L (iY bs) f) j n x) u:=by have Y:=K.lt;simp[Ajg,I1,Jz,Jk,Code.core,Code.one,Code.two,slj,Dl];refine Mwc ?_;refine A0 (PW C Aa) T Ac T Af ?_;rintro y v⟨rfl,g,a⟩;walk_nrm;refine Wad ?_;refine Gm (S:=env Lv) (x:=iS (nn l bs)) T Ac (B1 Ab) (A5 _ _) (λw=>by go_simp;first|done|(rw[←(An3 (bs:=bs) K)];split<;>omega)) (λw=>by have r:=UG (Io l) (iY bs) w;go_simp) ?_;walk_nrm;refine T03 ?_;exact⟨Air,Kp _ T,g,a⟩
def Nl(l):∀u∈A4 l,u.oneCell'=jz:=λu r=>by obtain⟨x,_,rfl⟩:=aZ.1 r;rfl
def La(l):∀x∈A4 l,∀m,A2 m x=x:=λx Z m=>by obtain⟨y,_,rfl⟩:=aZ.1 Z;simp
def AI(w t)(l r:iE)(X off I m)(f:w.ownsRow 0 5 1 t (iY l) (A4 l))(D:Bytes w X off r)(n:m=iY r)(h:0<m)(hl:iY l+m<=5000):∃g c a,(Builtin.append_ #[35,35] 35 #[t,xh (je (iR X off)) m I]).run ow w=.ok (xh (je (iQ g)) (l++r).length c) a/\a.ownsRow 0 5 1 (xh (je (iQ g)) (l++r).length c) (l++r).length (A4 (l++r))/\Ax w a (λp=>t.ownBlock=je p)/\(t.ownBlock=je g∨g=iZ w.1)/\(IntsIn w t->IntsIn a (xh (je (iQ g)) (l++r).length c)):=by
 subst n;obtain⟨d,e,v,W,T⟩:=info_parts Tryz.info5;have M:∀j(u:p8),(A4 r)[j]?=je u->w.cell? (((iR X off):Addr).add j)=je u:=λj u b=>by (have P:j<iY r:=by have:=(aF.1 b).1;simpa[A4] using this);have C:=D j P;simp[A4,aV,aG P,aI,aU]at b;rwa[←b,Addr.add_lit]
 have z:(A4 r).length=iY r * d.3:=by rw[W];simp[A4]
 have R:∀k,∀x∈Builtin.zeroCells (Value.int ry 0).cells k,∀m,A2 m x=x:=λk x Z m=>by (have:x=wy ry 0:=by simp[Builtin.zeroCells,Value.cells]at Z;grind);rw[this];simp
 obtain⟨g,c,a,Y,J,O,q,h5⟩:=run_append_lies (P:=ow) w 35 35 0 5 d _ 1 1 und e v W T iW Ad t (iY l) _ f (iR X off) (iY r) I (A4 r) (by simp[A4]) M (Nl r) h Aio Aa (bB _) _ iW;have B:IntsIn w t->IntsIn a (xh (je (iQ g)) (l++r).length c):=λV y cc K L=>by (obtain rfl:g=y:=by simpa[Value.ownBlock] using K);obtain⟨rfl,a1⟩|⟨i,N,H,rfl,a6,G,a7,a8,Q,ab⟩:=f.2;have s:=run_append_nil (P:=ow) w 35 35 5 d _ und e v (iR X off) (iY r) I (A4 r) z M h Aa (by rw[T];omega);rw[Y]at s;injection s with F U;injection F with F _ _;injection F with F;injection F with F _ _;subst U F;rw[show(w.drew.alloc (pf ((A4 r).toArray++Builtin.zeroCells (Value.int ry 0).cells (grownCap w (iY r) 0 5 - iY r)) 5)).1[iZ w.1]?=je (pf ((A4 r).toArray++Builtin.zeroCells (Value.int ry 0).cells (grownCap w (iY r) 0 5 - iY r)) 5) from iy w.drew _]at L;injection L with L;injection L with L _ _;subst L;intro x Z m;rw[cH]at Z;obtain Z|Z:=Z;exact La r x QV m;exact R _ x Z m;by_cases S:iY l+iY r<=N;have s:=run_append_room (P:=ow) w 35 35 5 d und e i (iY l) N H G (iR X off) (iY r) I (A4 r) z M (Nl r) S (by rw[W,Q];simp[A4];omega);rw[Y]at s;injection s with F U;injection F with F _ _;injection F with F;injection F with F _ _;subst U F;rw[setRow_heap w g H _ 5 _ G]at L;injection L with L;injection L with L _ _;subst L;have A:=V g H iW G;intro x Z m;simp only[List.mem_toArray,bC]at Z;obtain (Z|Z)|Z:=Z;exact A x (by simpa using fK Z) m;exact La r x Z m;exact A x (by simpa using List.mem_of_mem_drop Z) m;have s:=run_append_grow (P:=ow) w 35 35 5 d _ und e v (iQ i) (iY l) N (A4 l) (by rw[W];simp[A4]) (f.cells (g:=i) iW) (iR X off) (iY r) I (A4 r) z M Aa Aa (growslice_fits Aa (by rw[T];omega));rw[Y]at s;injection s with F U;injection F with F _ _;injection F with F;injection F with F _ _;subst U F;rw[show(w.drew.alloc (pf ((A4 l).toArray++(A4 r).toArray++Builtin.zeroCells (Value.int ry 0).cells (grownCap w (iY l+iY r) N 5 - (iY l+iY r))) 5)).1[iZ w.1]?=je (pf ((A4 l).toArray++(A4 r).toArray++Builtin.zeroCells (Value.int ry 0).cells (grownCap w (iY l+iY r) N 5 - (iY l+iY r))) 5) from iy w.drew _]at L;injection L with L;injection L with L _ _;subst L;intro x Z m;rw[cH,cH]at Z;obtain (Z|Z)|Z:=Z;exact La l x QV m;exact La r x QV m;exact R _ x Z m
 rw[←Gz,←aH]at J;rw[←aH]at Y;exact⟨g,c,a,Y,J,⟨O.1,O.2,O.3,O.4,λk E Z=>O.5 k E (λo=>Z o.symm)⟩,q,B⟩
def Ap2(C:Nw J c u h U d tl l)(ah:∀E,d.ownBlock=je E->E≠a)(aa:¬c a)(off y t n r)(hb:Bytes u a off r)(hm:iY r=n)(B:0<n)(hl:iY l+n<=5000)(ai:n<=t)(A x):Kk ow e J N 61 Ajh (λm a' O=>m=.normal/\(∃v,a'=Dl (vp (je (iR h U))) (xh (je (iR a off)) y t) A (iS n) v)/\Ax u O (λi=>i=h∨d.ownBlock=je i) /\
   ∃E f,Nw J c O h U (xh (je (iQ E)) (l++r).length f) tl (l++r)/\(d.ownBlock=je E∨iZ u.1<=E)) (Dl (vp (je (iR h U))) (xh (je (iR a off)) y t) A (iS n) x) u:=by
 have T:(0:Int)<=(n:Int):=Aa;obtain⟨F,S,rfl⟩:=C.slice;generalize a7:iY l=p at *;have o:∀(j:qi)(H:Nat),True->True:=λ_ _ Z=>Z;have q:∀(D:Act)(j:qi)(H:Nat),((yv=yv)/\(∃v,D=Dl (vp (je (iR h U))) (xh (je (iR a off)) y t) A (iS n) v)/\Ax u j (λi=>i=h∨(Value.slice F p S).ownBlock=je i)/\∃E f,Nw J c j h U (xh (je (iQ E)) (l++r).length f) tl (l++r)/\((Value.slice F p S).ownBlock=je E∨iZ u.1<=E)) ->((yv=yv)/\(∃v,D=Dl (vp (je (iR h U))) (xh (je (iR a off)) y t) A (iS n) v)/\Ax u (j.at H) (λi=>i=h∨(Value.slice F p S).ownBlock=je i)/\∃E f,Nw J c (j.at H) h U (xh (je (iQ E)) (l++r).length f) tl (l++r)/\((Value.slice F p S).ownBlock=je E∨iZ u.1<=E)):=λD j H⟨q1,q2,q3,E,f,q5,q6⟩=>⟨q1,q2,q3.at H,E,f,q5.at H,q6⟩;simp only[Ajh,I1,Jz,Jk,Code.core,Code.one,Code.two,slj,Dl];refine Es (I:=λ_=>True) Ac λz=>?_;refine A7.tp 0 o q trivial ?_;walk_nrm;refine A7.tp 1 o q trivial ?_;walk_nrm;refine A7.tp 2 o q trivial ?_;walk_nrm;refine A7.tp 3 o q trivial ?_;walk_nrm;refine A7.tp 5 o q trivial ?_;walk_nrm;refine A7.tp 6 o q trivial ?_;walk_nrm;refine A7.take (i:=7) (x:=xh (je (iR a off)) n t) o q iW Ab Ab Ab (Mn (S:=env Lv) Ac (B1 (fn:=0) Ab) (A5 _ _) Ami (λj=>by have I:=λX=>Rh j X (je (iR a off)) y t n T Aa;go_simp;first|done|rfl)) trivial ?_;walk_nrm;have K:=C.at z;have c1:(u.at z).cell? (iR h U)=je (xh F p S):=K.5;refine Pu (i:=4) (S:=env Lv) (fn:=0) o q Ab iW Ac (B1 Ab) (A5 _ _) (x:=xh F p S) (v':=u.at z) (λH=>zk (by have M:=(show yg ((u.at z).at H) _=je (Value.slice F p S) from c1);walk_nrm;go_simp)) (λH=>by have M:=(show yg ((u.at z).at H) _=je (Value.slice F p S) from c1);walk_nrm;intro g he;simp[go_sem,M]at he;subst he;exact Co C.3) trivial ?_;walk_nrm;refine ZX (i:=8) (S:=env Lv) (fn:=0) K.W Ab iW Ac (B1 Ab) (A5 _ _) (X:=λi=>(Value.slice F p S).ownBlock=je i) (R:=λW av=>∃E f,W=xh (je (iQ E)) (l++r).length f/\av.ownsRow 0 5 1 W (l++r).length (A4 (l++r))/\((Value.slice F p S).ownBlock=je E∨E=iZ u.1)/\IntsIn av W) (λi L Z=>?_) (λad hs=>?_) ?_;obtain⟨aj,s,P⟩:=C.W.3 i L;obtain⟨_,⟨Q,_⟩|⟨E,ak,al,Q,_,T,_⟩⟩:=C.9;rw[Q]at Z;cases Z;rw[Q]at Z;obtain rfl:E=i:=by simpa[Value.ownBlock] using Z
 rw[T]at s;obtain rfl:=aC s;cases P;obtain⟨E,f,Y,a8,k1,k2,k3,k4⟩:=AI ad _ l r a off t n (by rw[a7];exact Eb (a7▸K.9) λE G=>hs.same (C.ap E G)) (λi L=>(Bo (hs.same aa)).trans (hb i L)) hm.symm B Aa;exact⟨_,Y,zk Emq,⟨E,f,iW,k1,k3.imp id λZ=>by rw[Z,hs.size];rfl,k4 λk R g Z=>C.11 k R g ((hs.same (C.ap k g)).symm.trans Z)⟩,k2⟩;rintro W b av V ax ab cy⟨E,f,rfl,s,G,ae⟩;refine⟨trivial,?_⟩;have w:¬c E:=by obtain Z|Z:=G;exact C.ap E Z;exact λhB=>by have:=C.W.lt hB;omega
 have C1:Nw J c b h U (xh F p S) tl l∨True:=qx trivial;have af:b.ownsRow 0 5 1 (xh (je (iQ E)) (l++r).length f) (l++r).length (A4 (l++r)):=Eb s λk m=>by (obtain rfl:E=k:=by simpa[Value.ownBlock] using m);exact(ab E w).symm
 have X:=V.5 h (C.W.lt C.2) λZ=>C.ap h Z C.2;have D1:Nw J c b h U (xh F p S) tl l->True:=λ_=>trivial;have a1:b.cell? (iR h U)=je (xh F p S):=(Bo X).trans C.5;have a6:b.frozen? (iR h U)=vy:=(N4 X).trans C.7;have C2:Nw J c (b.setCell (iR h U) (xh (je (iQ E)) (l++r).length f)) h U (xh (je (iQ E)) (l++r).length f) tl (l++r):=⟨ax.set _ _ _,C.2,C.3,C.4,gh _ _ _ a1,(gn _ _ _ _ Ae).trans ((Bo X).trans C.6),(st3 _ _ _ _).trans a6,(st3 _ _ _ _).trans ((N4 X).trans C.8),Eb af λk m=>by (obtain rfl:E=k:=by simpa[Value.ownBlock] using m);exact E1 _ _ λg=>w (g▸C.2),λk m=>by (obtain rfl:E=k:=by simpa[Value.ownBlock] using m);exact w,λk R m Z=>by (obtain rfl:E=k:=by simpa[Value.ownBlock] using m);exact ae E R iW ((ab E w).trans ((E1 (iR h U) (xh (je (iQ E)) (l++r).length f) (fun(g:E=h)=>w (g▸C.2))).symm.trans Z))⟩;generalize ao:(l++r).length=nl at *;walk_nrm;refine A7.tp 9 o q trivial ?_;walk_nrm;refine A7.tp 10 o q trivial ?_;walk_nrm;refine Pu (i:=11) (S:=env Lv) (fn:=0) o q Ab iW Ac (B1 Ab) (A5 _ _) (x:=re) (v':=b.setCell (iR h U) (xh (je (iQ E)) nl f)) (λH=>qx ⟨by have M:=(show yg (b.at H) _=_ from a1);have hf:=(show ue (b.at H) _=vy from a6);walk_nrm;go_simp;first|done|rfl,rfl⟩) (λH=>by walk_nrm;intro g he;simp[go_sem,((show yg (b.at H) _=_ from a1)),((show ue (b.at H) _=vy from a6)),rxk _ _ _ _ (Value.slice _ _ _) qwf iW,gi]at he;subst he;exact Co C.3) trivial ?_;walk_nrm;refine A7.all Ab ⟨iW,Kp _ iW,(V.ofAt.mono λ_ Z=>qx Z).trans ((Gk b h U _).mono λ_ Z=>zk Z),E,f,C2,G.imp id λZ=>Aa⟩ _
def Ap3(a off y f m)(L:m<=y)(h:y<=f)(c b x):Kk Z e J N 61 Aji (λd l O=>d=.normal/\(∃g,l=Dl c (xh (M8 a off m f) (y - m) (f - m)) b (iS m) g)/\O=u) (Dl c (xh (je (iR a off)) y f) b (iS m) x) u:=by have i:(y:Int)<=(f:Int):=Aa;simp[Aji,I1,Jz,Jk,Code.core,Code.one,Code.two,slj,Dl];refine Qit ?_;apply Gm (S:=env Lv) (x:=xh (M8 a off m f) (y - m) (f - m)) T Ac (B1 Ab) (A5 _ _) Ami (λj=>by have I:=λX=>Y5 j X (je (iR a off)) y f m Aa Aa;go_simp;first|done|rfl);walk_nrm;refine T03 ?_;exact⟨Air,Kp _ T,Air⟩
def Ap4(C:Nw J c u h U d tl l)(i j n x):Kk Z e J N 61 Ajj (λb k O=>if 1000<lenOf l then b=.ret/\k.defers = []/\Ax u O (λp=>p=h)/\Nw J c O h U (xh zt 0 0) jz []
   else b=.normal/\(∃q,k=Dl (vp (je (iR h U))) i j n q)/\Ax u O iV/\Nw J c O h U d tl l) (Dl (vp (je (iR h U))) i j n x) u:=by simp[Ajj,I1,Jz,Jk,Code.core,Code.one,Code.two,slj,Dl];refine G9s ?_;refine V2g ?_;refine A0 (YE C) T Ac T Af ?_;rintro y v⟨rfl,g,a⟩;walk_nrm;refine T03 ?_;by_cases z:1000<lenOf l;have S:(1000:Int)<(lenOf l:Int):=Aa;simp[aL z];refine Qp5 ?_;refine G9s ?_;refine Ldr ?_;obtain⟨F,t,rfl⟩:=C.slice;have f:=a.part (pv':=xh zt 0 0) (l':=[]) ⟨by simp[A4],zk ⟨T,T⟩⟩ (λr b=>by cases b) (λr w b=>by cases b);refine Dq (S:=env Lv) T Ac (B1 Ab) (A5 _ _) (x:=re) (v':=(v.setCell (iR h U) (xh zt 0 0))) (λH=>qx ⟨by have M:=(show yg (World.at v H) _=_ from a.5);have a1:=(show ue (World.at v H) _=vy from a.7);walk_nrm;go_simp;first|done|rfl,rfl⟩) (λH=>by have M:=(show yg (World.at v H) _=_ from a.5);have a1:=(show ue (World.at v H) _=vy from a.7);walk_nrm;intro A W;simp[go_sem,M,a1,rxk _ _ _ _ (Value.slice _ _ _) qwf T,rxk _ _ _ _ (Value.bool _) qwf T,gi]at W;subst W;exact Co C.3) ?_;walk_nrm;have m:=Gk v h U (xh zt 0 0);generalize v.setCell (iR h U) (xh zt 0 0)=B at f m⊢;refine Wad ?_;have P:=f.flag jz;have o:=Gk B h (U+1) (o0 jz);refine Dq (S:=env Lv) T Ac (B1 Ab) (A5 _ _) (x:=re) (v':=(B.setCell ⟨h,U+1,zt⟩ (o0 jz))) (λH=>qx ⟨by have M:=(show yg (World.at B H) _=_ from f.6);have a1:=(show ue (World.at B H) _=vy from f.8);walk_nrm;go_simp;first|done|rfl,rfl⟩) (λH=>by have M:=(show yg (World.at B H) _=_ from f.6);have a1:=(show ue (World.at B H) _=vy from f.8);walk_nrm;intro A W;simp[go_sem,M,a1,rxk _ _ _ _ (Value.slice _ _ _) qwf T,rxk _ _ _ _ (Value.bool _) qwf T,gi]at W;subst W;exact Co C.4) ?_;walk_nrm;generalize B.setCell ⟨h,U+1,zt⟩ (o0 jz)=E at P o⊢;refine K9h ?_;exact Ca ⟨T,T,((g.mono λ_ s=>s.elim).trans m).trans o,P⟩;simp[aO z];refine A3 (t:=vy) W9 ?_;simp[cB,aX];refine Pv2 ?_;exact⟨Air,Kp _ T,g,a⟩
def Ap5(C:Nw J c u h U d tl l)(K:iY l<=5000)(b j n x):Kk ow e J N 61 Ajk (λf g O=>f=.normal/\(∃a,g=Dl (vp (je (iR h U))) b j n a/\a 40=o0 (decide (Io l=0)))/\Ax u O iV/\Nw J c O h U d tl l) (Dl (vp (je (iR h U))) b j n x) u:=by simp[Ajk,Aal,I1,Jz,Jk,Code.core,Code.one,Code.two,slj,Dl];refine Mwc ?_;apply A0 (PW C K) T Ac T Af;rintro y Z⟨rfl,H,k⟩;walk_nrm;apply Cj (o0 _);walk_nrm;refine K9h ?_;exact⟨Air,⟨λi=>([re,re,re,re,re,re,re,x 7,x 8,x 9,x 10,x 11,x 12,x 13,x 14,x 15,x 16,x 17,x 18,x 19,x 20,x 21,x 22,x 23,x 24,x 25,x 26,x 27,x 28,x 29,x 30,x 31,x 32,x 33,x 34,x 35,x 36,x 37,vp _,iS (Io l),o0 (decide (Io l=0)),x 41,x 42,x 43,x 44,x 45,x 46,x 47,x 48,x 49,x 50,x 51]:iK).getD i re,T,T⟩,H,k⟩
def Ap6(C:Nw J c u h U (xh (je (iQ a)) n k) tl l)(D:n<=k)(g i m x):Kk Z e J N 61 Ajm (λb q O=>b=.normal/\(∃r,q=Dl (vp (je (iR h U))) g i m r)/\Ax u O (λt=>t=h)/\Nw J c O h U (xh (je (iQ a)) 0 k) tl []) (Dl (vp (je (iR h U))) g i m x) u:=by (have v:u.ownsRow 0 5 1 (xh (je (iQ a)) 0 k) ([]:iE).length (A4 []):=by obtain⟨F,⟨f,_⟩|⟨R,E,H,f,w,T,G,z,y,s⟩⟩:=C.9;cases f;cases f;exact⟨by simp[A4],qx ⟨a,k,H,iW,w,T,Ae,z,y,by simp[A4]⟩⟩);simp[Ajm,OQ,Aal,Code.yes,I1,Jz,Jk,Code.core,Code.one,Code.two,slj,Dl];refine Ay ?_;refine Ldr ?_;refine B8 C.5 C.3 ?_;walk_nrm;refine Gm (S:=env Lv) (x:=xh (je (iQ a)) 0 k) iW Ac (B1 Ab) (A5 _ _) Ami (λj=>by have I:=λX=>Rh j X (je (iQ a)) n k 0 Aa Aa;go_simp;first|done|rfl) ?_;walk_nrm;refine Wad ?_;have o:=C.part (l':=[]) v (λR b=>C.ap R b) (λR A b=>C.11 R A b);have p:=Gk u h U (xh (je (iQ a)) 0 k);refine Dq (S:=env Lv) iW Ac (B1 Ab) (A5 _ _) (x:=re) (v':=(u.setCell (iR h U) (xh (je (iQ a)) 0 k))) (λd=>qx ⟨by have M:=(show yg (World.at u d) _=_ from C.5);have a1:=(show ue (World.at u d) _=vy from C.7);walk_nrm;go_simp;first|done|rfl,rfl⟩) (λd=>by have M:=(show yg (World.at u d) _=_ from C.5);have a1:=(show ue (World.at u d) _=vy from C.7);walk_nrm;intro K W;simp[go_sem,M,a1,rxk _ _ _ _ (Value.slice _ _ _) qwf iW,rxk _ _ _ _ (Value.bool _) qwf iW,gi]at W;subst W;exact Co C.3) ?_;walk_nrm;generalize u.setCell (iR h U) (xh (je (iQ a)) 0 k)=B at o p⊢;refine K9h ?_;exact⟨Air,Kp _ iW,p,o⟩
end
section
variable {J:iH} {m:qi} {h:Nat} {tl:Bool} {l:iE} {pg:iN} {b:s9} {k:List Item}
structure Wk(J Bs m)(pg:iN)(h U a)(S:iG)(u d tl l):Prop where
 C:Nw J Bs u h U d tl l
 K:Ax m u (λi=>i=h∨pg=je i)
 P:∀g,d.ownBlock=je g->(pg=je g∨iZ m.1<=g)/\g≠a/\¬S g
 hS:∀j,S j->j<iZ u.1
 hB:¬Bs a
def Wk.step(g:Wk J Bs m pg h U a S u d tl l){f c e}(K:Ax u O (λk=>k=h∨d.ownBlock=je k))(C:Nw J Bs O h U f c e)(G:∀i,f.ownBlock=je i->d.ownBlock=je i∨(iZ u.1<=i/\i≠a)):Wk J Bs m pg h U a S O f c e:=by refine⟨C,⟨K.1.trans g.K.1,K.2.trans g.K.2,K.3.trans g.K.3,aD g.K.4 K.4,λk V Z=>?_⟩,λi j=>?_,λn b=>aB (g.4 n b) K.4,g.5⟩;refine(K.5 k (aB V g.K.4) λq=>?_).trans (g.K.5 k V Z);obtain q|q:=q;exact Z (zk q);obtain r|r:=(g.P k q).1;exact Z (qx r);omega;obtain q|⟨F,z⟩:=G i j;exact g.P i q;exact⟨qx (aD g.K.4 F),z,λs=>by have:=g.4 i s;omega⟩
def Wk.kx(b:Wk J Bs m pg h U a S u d tl l)(K:Ax u O iV)(C:Nw J Bs O h U d tl l):=
 b.step (K.mono λ_ b=>b.elim) C λg e=>zk e
abbrev J1(h U:Nat):F:=vp (je (iR h U))
def Ahw(D:Bytes u a off bs)(M:iY bs<=I)(m)(L:m<=iY bs)(F:0<m)(k:¬Bs a):Src Bs u a (xh (M8 a off m I) (iY bs - m) (I - m)) (bs.drop m):=by refine⟨k,_,_,by rw[dD],by rw[dD];omega,λf=>⟨off+m,?_,λi V=>?_⟩⟩;rw[M8];grind;rw[dD]at V;have:=D (m+i) Aa;grind
def WA(c:Wk J Bs m pg h U a S u d tl l)(K:Zz l)(A:iM)(I)(s:Src Bs u a (xh A (iY bs) I) bs)(L:bs≠[])(j o F)(D:b.fn=61)(E:b.kind=.normal)(a6:1000<lenOf (E3 l bs)->∀H O p,H.defers = []->Wk J Bs m pg h U a S O (xh zt 0 0) jz []->EV ow e J N (G { b.at H p with mode:=.returning } z) O)(a7:lenOf (E3 l bs)<=1000->∀P O g i T,Wk J Bs m pg h U a S O (xh (je (iQ g)) (E3 l bs).length i) tl (E3 l bs)->Src Bs O a T (bs.drop (nn l bs))->P 40=o0 (decide (Io (E3 l bs)=0)) ->
   EV ow e J N (G (b.at (Dl (J1 h U) T j (iS (nn l bs)) P) (.code AP::.inBlock 1::k)) z) O):EV ow e J N (G (b.at (Dl (J1 h U) (xh A (iY bs) I) j o F) (.code Rb::k)) z) u:=by
 obtain⟨_,_,e0,C,aa⟩:=s.2;cases e0;obtain⟨off,rfl,Q⟩:=aa L;have R:0<iY bs:=eV.2 L;have W:=An4 K L;have n:=Al4 l bs;have al:=X4 (p:=l) (bs:=bs);have ao:=PY (bs:=bs) K;have aq:=OG Q R;refine EV.seqC (Alv (je (iR a off)) (iY bs) I (J1 h U) j o F b (.code (.block 1 (.seq Ajg (.seq Ajh (.seq Aji (.seq Ajj (.seq Ajk AP))))))::k) z D E ?_);rintro f ar u1⟨rfl,⟨x1,rfl⟩,rfl⟩;rw[aL R];refine EV.blockC (EV.seqC ?_);apply Ap1 c.C K (je (iR a off)) bs I j o x1 b _ z D E;rintro f a2 B⟨rfl,⟨a8,rfl⟩,r,M⟩;have v:=c.kx r M;have X:=Vn Q r λc=>c;apply EV.seqC;have ab:Bytes B a off (bs.take (nn l bs)):=λad V=>by rw[gI];exact X ad (by rw[dI]at V;omega)
 apply Ap2 M (λg f=>(v.P g f).2.1) c.5 off (iY bs) I (nn l bs) (bs.take (nn l bs)) ab Al W Aa Aa j a8 b _ z D E;rintro f a3 Y⟨rfl,⟨x3,rfl⟩,Z,g,i,ae,af⟩;have w:Wk J Bs m pg h U a S Y (xh (je (iQ g)) (E3 l bs).length i) tl (E3 l bs):=v.step Z ae λg' f=>by (obtain rfl:g=g':=by simpa[Value.ownBlock] using f);obtain q|q:=af;exact zk q;exact qx ⟨q,by have:=r.4;omega⟩
 have ah:Bytes Y a off bs:=Vn X Z λq=>by obtain q|q:=q;exact c.5 (q▸M.2);exact(v.P _ q).2.1 iW
 apply EV.seqC;apply Ap3 a off (iY bs) I (nn l bs) n C (J1 h U) j x3 b _ z D E;rintro f a4 u4⟨rfl,⟨x4,rfl⟩,rfl⟩;refine EV.seqC (Ap4 w.C _ j _ x4 b _ z D E ?_);intro f ai u5 q;by_cases y:1000<lenOf (E3 l bs);rw[aL y]at q;obtain⟨rfl,hd,t,x⟩:=q;exact λp=>a6 y ai u5 p hd (w.step (t.mono λ_ c=>zk c) x λg f=>by cases f);rw[aO y]at q;obtain⟨rfl,⟨x5,rfl⟩,t,x⟩:=q;apply EV.seqC;apply Ap5 x Aa _ j _ x5 b _ z D E;rintro f au u6⟨rfl,⟨x6,rfl,aj⟩,a1,ak⟩;exact a7 Aa x6 u6 g i _ ((w.kx t x).kx a1 ak) (((Ahw (Bs:=Bs) ah C (nn l bs) n W c.5).kx t λc=>c).kx a1 λc=>c) aj
noncomputable def BJ(b:s9)(k:List Item)(z:List s9)(h U:Nat)(bv ch m:F)(x:iL):gy:=
 G (b.at (Dl (J1 h U) bv ch m x) (.inRegion Abq [3]::.code Ajm::.inBlock 1::.inLoop Rb::.inBlock 0::k)) z
def Ark(C:Nw J Bs u h U d tl l)(q:4<=iY l)(K:iY l<=5000)(T j m x)(f:x 40=o0 jz)(n:b.fn=61)(E:b.kind=.normal)(c:∀a O,O.1[iZ u.1]?=je (pf (A4 (l.drop 4)).toArray 5)->Ax u O iV->Nw J Bs O h U d tl l->a 41=j->a 43=xh (je (iQ u.1.size)) (iY l - 4) (iY l - 4)->∀g,N (BJ b k z h U T j m a) (O.at g)):EV ow e J N (G (b.at (Dl (J1 h U) T j m x) (.code AP::.inBlock 1::.inLoop Rb::.inBlock 0::k)) z) u:=by refine EV.condC f ?_;refine EV.seqC (EV.regionC ?_);simp[Abq,Ajl,OQ,Aal,I1,Jz,Jk,Code.core,Code.one,Code.two,Code.yes,Code.opsOf,slj,Dl];apply EV.opPure (fn:=61) E iW Ac (B1 Ab) (A5 _ _) (λw=>Ac) (λw=>Ac);walk_nrm;apply EV.opPure (fn:=61) E iW Ac (B1 Ab) (A5 _ _) (λw=>Ac) (λw=>Ac);walk_nrm;apply EV.opCall E (Apw C q K) iW Ac iW Af (by simp[E4]);rintro y Z⟨rfl,Y,H,P⟩;walk_nrm;exact EV.stop (c (λi=>([re,re,re,re,re,re,re,x 7,x 8,x 9,x 10,x 11,x 12,x 13,x 14,x 15,x 16,x 17,x 18,x 19,x 20,x 21,x 22,x 23,x 24,x 25,x 26,x 27,x 28,x 29,x 30,x 31,x 32,x 33,x 34,x 35,x 36,x 37,x 38,x 39,x 40,j,J1 h U,xh (je (iQ u.1.size)) (iY l - 4) (iY l - 4),x 44,x 45,x 46,x 47,x 48,x 49,x 50,x 51]:iK).getD i re) Z Y H P iW iW)
def Ap7{q}{F:iC}(j)(l:b.fn=61)(E:b.kind=.normal)(Z:∀f O v w T ad o body a1 a6,F=body::a1->Hf [] a6 a1 q t->4<=iY w->w.drop 4=body->iY w<=1004->Wk J Bs m pg h U a S O v vy w->(∃g H,v=xh (je (iQ g)) (iY w) H)->(∀g,v.ownBlock=je g->g≠o)->Src Bs O a T a6->O.1[o]?=je (pf (A4 body).toArray 5)->iZ m.1<=o->¬S o->¬Bs o->f 41=j->f 43=xh (je (iQ o)) (iY body) (iY body)->∀P,N (BJ b k z h U T j ad f) (O.at P))(a7:F = []->t=vy->∀i O v,i.defers = []->Wk J Bs m pg h U a S O v vy q->EV ow e J N (G (b.at i k) z) O)(a8:F = []->t=jz->q = []->∀i O W,i.defers = []->Wk J Bs m pg h U a S O (xh zt 0 0) jz []->EV ow e J N (G { b.at i W with mode:=.returning } z) O):∀{p bs},Hf p bs F q t->Zz p->∀u(r T d:p8)x,Wk J Bs m pg h U a S u r vy p->Src Bs u a T bs ->
   EV ow e J N (G (b.at (Dl (J1 h U) T j d x) (.code Rb::.inLoop Rb::.inBlock 0::k)) z) u:=by intro p bs K;induction K with|done p=>intro Q u r T d x c s;obtain⟨L,I,rfl,C,_⟩:=s.2;refine EV.seqC (EV.piece l E (Alv L _ I (J1 h U) j d x) ?_);rintro aa ak al⟨rfl,⟨x1,rfl⟩,rfl⟩;simp[aR,Nat.lt_irrefl,cB];exact⟨k,iW,a7 iW iW _ _ r iW c⟩|long D X=>intro Q u r T d x c s;obtain⟨L,I,rfl,C,_⟩:=s.2;exact WA c Q L I s D j d x l E (λ_ i O W ae R=>a8 iW iW iW i O W ae R) (λao=>Aa)|@body p bs F q t D X y K ab=>intro Q u r T d x c s;obtain⟨L,I,rfl,C,_⟩:=s.2;refine WA c Q L I s D j d x l E (λaf=>Aa) λ_ f O g H V R Y M=>?_;rw[y]at M;have h4:=Ac7 y;have ah:=PY (bs:=bs) Q;refine Ark R.C h4 Aa V j _ f M l E λai B hr K2 aj n A P=>?_;refine Z ai B _ (E3 p bs) V _ O.1.size _ _ _ iW K h4 iW ah (R.kx K2 aj) ⟨g,H,iW⟩ (λg' aa=>?_) (Y.kx K2 λc=>c) hr R.K.4 (λc=>by have:=R.4 _ c;omega) (λc=>by have:=R.C.W.lt c;omega) n (by rw[A,dD]) P;have:=Dj R.C.9 aa;omega|@more p bs F q t D X y K ab=>intro Q u r T d x c s;obtain⟨L,I,rfl,C,_⟩:=s.2;refine WA c Q L I s D j d x l E (λaf=>Aa) λ_ f O g H V R Y M=>?_;refine EV.condC (t:=vy) (M.trans (by rw[decide_eq_false y])) ?_;simp[cB,aX];exact EV.skipC (EV.inBlockC (EV.inLoopC (ab Z a7 a8 (Af2 Q X y) O _ V _ f R Y)))
end
@[reducible] noncomputable def NP(L:Nt)(ChL WgL ChB WgB NA N0:Nat)(fA fB:Nat->Nat)(w0:qi)(low:Nat)(JA JB:iH)(FinA:gy->qi->Prop)(FinB:(Nat->Prop)->gy->qi->Prop):Nu:=
 {L,P:=Z,ty:=125,ChL,WgL,ChB,WgB,NA,N0,fA,fB,w0,low,JA,JB,msgT:=5,msgV:=λi m=>xh (je (iQ i)) m.size m.size,FinA,FinB }
noncomputable def bot:s9:={ (default:s9) with fn:=prog.funcs.size,defers:=[],mode:=.panicking [qh] }
noncomputable def KR:gj:=f59.body.getD .skip
noncomputable def Agf:Array xe:=match KR with|.seq _ (.seq _ (.region _ ops _))=>ops|_=>#[]
noncomputable def NZ(T:iJ)(Wg Ch:Nat):Act:=⟨T,[Py 115 0 Ch,dcall 60 #[HZ Wg]]⟩
noncomputable def UK(T:iJ)(Wg Ch:Nat):s9:=(baseD 59).at (NZ T Wg Ch) [.inRegion Agf [3]]
noncomputable def JU(T:iJ)(Wg Ch:Nat):gy:=G { (baseD 59).at (NZ T Wg Ch) [] with mode:=.returning } [bot]
def YY(n):Bp n bot=bot:=by have S:(default:s9).2=#[]:=T;have L:(default:s9).3 = []:=T;have Y:(default:s9).7=zt:=T;simp[Bp,bot,Kh,qh,E7,S,L,Y]
def JH(n T q N):B9 n (NZ T q N)=NZ (T.map (A2 n)) (sh n q) (sh n N):=by simp[B9,NZ,Py,dcall,Qh, Ew,Yl,Nv]
def Ag8(n T q N):Bt n (JU T q N)=JU (T.map (A2 n)) (sh n q) (sh n N):=by unfold JU;rw[E6];simp[bF,cM,YY];rw[←(JH n T q N)];rfl
def rowOf(b:iE):Array F:=(A4 b).toArray
def JL(n b):(rowOf b).map (A2 n)=rowOf b:=by simp[rowOf,A4]
def EM(b):(rowOf b).size=iY b:=by simp[rowOf,A4]
def EF(n c b j m x):B9 n (Dl c b j m x)=Dl (A2 n c) (A2 n b) (A2 n j) (A2 n m) (λi=>A2 n (x i)):=by simp[B9,Dl,E7]
set_option maxRecDepth 100000 in
def Am1(c T a x j Ch X)(n:X 41=.chan (je Ch))(A:X 43=x)(k z w):stepG Z vy (G ((pbq 61).at (Dl c T j a X) (.inRegion Abq [3]::k)) z) w=.comm (core (G ((pbq 61).at (Dl c T j a X) (.inRegion Abq [3]::k)) z)) #[scase Ch x (gq #[])] jz .send w #[]:=by simp[Abq,Ajl,OQ,Aal,I1,Jz,Jk,Code.core,Code.one,Code.two,Code.yes,Code.opsOf,slj,Dl,n,A];rw[stepG_comm iW Ac Ad (cases:=#[scase Ch x (gq #[])]) (blocking:=jz) (shape:=.send) (w':=w) (by simp[execOp,scase,vsp])];rfl
section
variable {L:Nt} {e p low:Nat} {x:Nat->Nat} {r:qi} {j Y:iH} {f:gy->qi->Prop} {m:qi} {pg:iN} {tl:Bool} {l:iE}
def XE(Y:iH)(Bs:iG)(m:qi)(pg:iN)(sb U a:Nat)(q:iE)(t:Bool)(S:iG)(v:qi):Prop:=∃d,Wk Y Bs m pg sb U a S v d t q
def XF(Y:iH)(Bs:iG)(m:qi)(pg:iN)(sb U a e K:Nat)(q:iE)(t:Bool)(S:iG)(g:gy)(v:qi):Prop:=(∃T,g=JU T e K)/\XE Y Bs m pg sb U a q t S v
def Wk.at(h:Wk Y Bs m pg sb U a S u d tl l)(b):Wk Y Bs m pg sb U a S (u.at b) d tl l:=⟨h.C.at b,h.K.at b,h.P,h.4,h.5⟩
def CJ{q}(b)(h:XE Y Bs m pg sb U a q t S u):XE Y Bs m pg sb U a q t S (u.at b):=let⟨d,h⟩:=h;⟨d,h.at b⟩
def Zf(w i):Ax w (Bb (· = i) w) (· = i):=by exact Tqk
def Wk.sent(g:Wk Y Bs m pg sb U a S u d tl l){i}{c:iJ}{t}(h:u.1[i]?=je (pf c t))(V:iZ m.1<=i)(n:¬Bs i)(H:∀b,d.ownBlock=je b->b≠i):Wk Y Bs m pg sb U a (λj=>S j∨j=i) (Bb (· = i) u) d tl l:=by have K:=Zf u i;(have W:=g.C.W.ofK K (λj f e=>n (e▸f)) λr I e=>by have ⟨o,O,z⟩:=g.C.W.3 r I;rw[e,h]at O;obtain rfl:=aC O;cases z);refine⟨g.C.kx K W (λe=>n (e▸g.C.2)) H,⟨K.1.trans g.K.1,K.2.trans g.K.2,K.3.trans g.K.3,aD g.K.4 K.4,λk E Z=>(K.5 k (aB E g.K.4) λe=>Aa).trans (g.K.5 k E Z)⟩,λb e=>⟨(g.P b e).1,(g.P b e).2.1,λq=>q.elim (g.P b e).2.2 (H b e)⟩,λj f=>?_,g.5⟩;rw[Cz];obtain f|rfl:=f;exact g.4 j f;exact ltOf h
def Amc{J}{a:gy->qi->Prop}{b}(T c)(y:b.defers = [])(h:∀B d,a (JU B e K) (u.at d)):EV Z vy J a (G { (pbq 61).at b c with mode:=.returning } [UK T e K,bot]) u:=by apply EV.leave y func61 iW (λw=>results_none Ac _ _ _) (λw=>events_results_none Ac _ _);rw[UK,Frame.finish_at,show Agf[3]?=je (Agf[3]' Ad) from iW];exact EV.regionEnd (EV.endC (EV.stop λd=>h _ d))
def scB(z)(hN:iZ m.1=k)(ar:a<iZ m.1){q}:∀(F:iC) S {d W},Hf d W F q t->Zz d->∀u(w T N:p8)y,Wk Y Bs m pg sb U a S u w vy d->Src Bs u a T W ->
  EV ow vy Y (ScB (NP L b c K e p k x E r low j Y f (XF Y Bs m pg sb U a e K q t)) (F.map rowOf) S) (G ((pbq 61).at (Dl (J1 sb U) T (.chan (je K)) N y) (.code Rb::.inLoop Rb::.inBlock 0::[])) [UK z e K,bot]) u:=by intro F;induction F with|nil=>intro S d W H Q u w T N y I s;refine Ap7 (b:=pbq 61) (.chan (je K)) iW iW (λ_ _ _ _ _ _ _ _ _ _ g=>by cases g) (λ_ R X O Z M h=>?_) (λ_ R ab X O l M h=>?_) H Q u w T N y I s;subst R;exact EV.endC (Amc z [] M λB v=>⟨iW,⟨B,iW⟩,CJ v ⟨Z,h⟩⟩);subst R ab;exact Amc z l M λB v=>⟨iW,⟨B,iW⟩,CJ v ⟨_,h⟩⟩|cons body au ad=>intro S d W H Q u w T N y I s;refine Ap7 (b:=pbq 61) (.chan (je K)) iW iW (λa1 O Z ae V a6 i av aw C g af h4 ax ay h ah ai aj a7 hi ak D az A v=>?_) Apn Apn H Q u w T N y I s;obtain⟨rfl,rfl⟩:=List.cons.inj g;obtain⟨b5,al,rfl⟩:=ah;refine⟨i,gq #[],⟨iW,⟨JL _ _,λn=>JL n _⟩,λn ao hG=>?_⟩,⟨by show k<=i;omega,ak⟩,a7,?_⟩;rw[BJ,E6,Hv,EF];refine Am1 (Ch:=sh n K) _ _ _ _ _ _ ?_ ?_ _ _ ao;simp_all;show A2 n (a1 43)=_;show _=Value.slice (je ⟨sh n i,0,zt⟩) (rowOf body).size (rowOf body).size;rw[A,EM];simp[A2,Ew];show EV ow vy Y _ (kt (core (BJ _ _ _ _ _ _ _ _ _)) re) _;rw[BJ,Yq (o:=Abq[3]' Ad) iW];apply EV.regionEnd;have a8:=(h.at v).sent (i:=i) a7 hi D ai;(have o:iY ae<=al:=by obtain⟨_,⟨g,_⟩|⟨g',b6,b7,g,_,_,hc,_⟩⟩:=h.C.9;cases g;cases g;exact hc);apply EV.piece (b:=pbq 61) (fn:=61) iW iW (Ap6 a8.C o V (.chan (je K)) a6 a1);rintro g X u2⟨rfl,⟨x2,rfl⟩,J,aq⟩;refine EV.inBlockC (EV.inLoopC ?_);apply ad (λaa=>S aa∨aa=i) af AZ u2 _ V a6 x2 (a8.step (J.mono λ_ P=>zk P) aq λg' g=>zk g);exact((aj.kx (Ax.at (Ax.refl O iV) v) λP=>P).kx (Zf _ i) λg=>Aa).kx J λg=>h.5 (g▸h.C.2)
def Akn(T:iJ):QuitsD Z 2 0 (G { (baseD 59).at ⟨T,[]⟩ [] with mode:=.returning } [bot]):=by refine QuitsD.ctl (g':=G bot []) iW (λw=>?_) ?_;simp[G,stepG,unwind,doReturn,results,Frame.at,baseD,bot,func59,f59,seen,GStep.after,qh];refine QuitsD.ctl (g':={ G bot [] with status:=.finished }) rfl (λw=>?_) ⟨rfl,rfl⟩;simp[G,stepG,unwind,bot,qh,Frame.catches];rfl
def Ak7(D:Nu):Terms D.RW Go.Pair.D0:=⟨rgT,λw=>⟨T,T⟩⟩
set_option maxRecDepth 100000 in
def Atc{a:(Nat->Prop)->gy->qi->Prop}(d:L.Wg≠L.Ch)(T w)(W:Fi 125 L.Wg w):WCl (NP L b c K e p k x E r low j Y f a) (JU T L.Wg L.Ch) w:=by refine⟨iW,iW,λs g i z=>⟨_,Vd iW Ac z,iW,103+1,?_⟩⟩;(have l:Fi 125 L.3 (w.shut L.4 s g i):=by have ⟨m,sm,h⟩:=W;refine⟨m,sm,?_⟩;rw[Ev]at h⊢;rw[←h];exact Yi d);apply Ds (Ak7 _) iW (λw=>stepG_unwind_enter iW func60 Ac iW);exact Ap9 (D:=NP L b c K e p k x E r low j Y f a) Tryz.wgLib iW iW (Akn T) _ l
end
def IM{p a:iE}(Q:Zz p)(h:(iY a:Int)<Io p):Io (p++a)=Io p - iY a:=by rw[Iw]at h;rw[Iw,Iw];by_cases q:iY p<4;grind;(have:lenOf (p++a)=lenOf p:=by unfold lenOf;grind);simp;omega
def YN{p a b:iE}(Q:Zz p)(h:(iY a:Int)<Io p):nn p (a++b)=iY a+nn (p++a) b:=by have L:=IM Q h;unfold nn;grind
def VA{p a b:iE}(Q:Zz p)(h:(iY a:Int)<Io p):E3 p (a++b)=E3 (p++a) b:=by unfold E3;rw[YN Q h,List.take_length_add_append,bY]
def Aan{p a b:iE}(Q:Zz p)(h:(iY a:Int)<Io p):(a++b).drop (nn p (a++b))=b.drop (nn (p++a) b):=by rw[YN Q h,List.drop_length_add_append]
def Hf.join{p a b:iE}{B:iC}{q}(Q:Zz p)(h:(iY a:Int)<Io p)(d:a≠[])(K:lenOf (p++a)<=1000)(j:Hf (p++a) b B q t):Hf p (a++b) B q t:=by (have E:a++b≠[]:=by simp[d]);have z:=VA (b:=b) Q h;have y:=Aan (b:=b) Q h;cases j with|done=>(have S:E3 (p++a) []=p++a:=by simp[E3]);rw[S]at z;refine .more E (by rwa[z]) (by rw[z,IM Q h];omega) ?_;rw[z,y];simp[List.drop_nil];exact .done _|long D c=>exact .long E (by rwa[z])|body D c L j=>rw[←z];exact .body E (by rwa[z]) (by rwa[z]) (by rwa[y])|more D c L j=>exact .more E (by rwa[z]) (by rwa[z]) Aj
def V8{x}(q:iY H=4)(r:uns H=n):lenOf (H++x)=n:=by rw[lenOf];grind
def X3{x}(q:iY H=4)(r:uns H=n):Io (H++x)=(n:Int) - iY x:=by rw[Io];grind
def Uo{H body a:iE}{B:iC}{q}(b:iY H=4)(r:uns H=iY body)(F:0<iY body)(C:iY body<=1000)(j:Hf [] a B q t):Hf [] (H++(body++a)) (body::B) q t:=by
 have z:Io []=4:=Ad;have f:nn [] (H++(body++a))=4:=by rw[nn];grind
 have N:E3 [] (H++(body++a))=H:=by rw[E3];grind
 have x:(H++(body++a)).drop (nn [] (H++(body++a)))=body++a:=by grind
 have c:lenOf H=iY body:=by have:=V8 (x:=[]) b r;simpa using this
 have d:Io H=iY body:=by have:=X3 (x:=[]) b r;simpa using this
 have J:nn H (body++a)=iY body:=by rw[nn];grind
 have m:E3 H (body++a)=H++body:=by rw[E3,J,cR (aA _),List.take_length]
 have Z:(body++a).drop (nn H (body++a))=a:=by rw[J];simp
 refine .more (by intro e;simp at e;rw[e.1]at b;simp at b) (by rwa[N,c]) (by rw[N,d];omega) ?_;rw[N,x];have D:Hf H (body++a) ((E3 H (body++a)).drop 4::B) q t:=.body (by intro e;simp at e;rw[e.1]at F;simp at F) (by rwa[m,V8 b r]) (by rw[m,X3 b r];omega) (by rwa[Z]);grind
def UB:Hf [] [0,0,0,4,0,0,0,1] [[0,0,0,1]] [] vy:=Uo (H:=[0,0,0,4]) (body:=[0,0,0,1]) T Ad Ad Ad (.done [])
noncomputable def Kn:gj:=f43.body.getD .skip
noncomputable def Xp:gj:=Code.two (Code.two (Code.two (Code.two (Code.two (Code.two Kn)))))
noncomputable def YJ:gj:=Code.core (Code.core (Code.two (Code.one Xp)))
noncomputable def JI:gj:=Code.two YJ
noncomputable def FY:Array xe:=Code.opsOf (Code.one YJ)
noncomputable def Aq2:Array xe:=Code.opsOf (Code.one (Code.core (Code.two JI)))
noncomputable def Al6:Array xe:=Code.opsOf (Code.two (Code.core (Code.two JI)))
noncomputable def Lm:gj:=Code.two Xp
noncomputable def YR:Array xe:=Code.opsOf (Code.one Lm)
noncomputable def LS:gj:=Code.two Lm
noncomputable def Ky(y:iL):Act:={ tmps:=#[y 0,y 1,y 2,y 3,y 4,y 5,y 6,y 7,y 8,y 9,y 10,y 11,y 12,y 13,y 14,y 15,y 16,y 17,y 18,y 19,y 20,y 21,y 22,y 23,y 24,y 25,y 26,y 27,y 28,y 29],defers:=[] }
def BE(n y):B9 n (Ky y)=Ky λi=>A2 n (y i):=by simp[B9,Ky]
noncomputable def Gy(kk:List Item)(z:List s9)(y:iL):gy:=G ((pbq 43).at (Ky y) (.inRegion FY [0,1]::.code JI::.inLoop (.seq (.region 8 FY vy) JI)::.inBlock 0::kk)) z
def Nn(n z y):Bt n (Gy [.code Lm] z y)=Gy [.code Lm] (z.map (Bp n)) λi=>A2 n (y i):=by rw[Gy,E6,Hv,BE];rfl
noncomputable def Iq(z:List s9)(y:iL):gy:=G ((pbq 43).at (Ky y) [.inRegion YR [],.code LS]) z
def Wx(n z y):Bt n (Iq z y)=Iq (z.map (Bp n)) λi=>A2 n (y i):=by rw[Iq,E6,Hv,BE];rfl
section
variable {J:iH} {j:List Item}
def Arb(y f cap)(x:F)(U:y 2=.func (.func f) #[] cap){a:iI}(g:Ba ow jz J N f (#[x]++cap) u λr O=>r=gq #[]/\a O)(C:∀W O,a O->(∀b,b<9∨b=17->W b=y b)->∀d,N (Gy j z W) (O.at d)):EV ow jz J N (kt (core (Gy j z y)) (gq #[x,o0 jz])) u:=by have E:(pbq 43).6=.normal:=iW;rw[Gy,Yq (o:=FY[0]' Ad) iW];refine EV.opPure (S:=env Lv) (fn:=43) (x:=o0 jz) E iW Ac (B1 Ab) (A5 _ _) (λw=>Ac) (λw=>Ac) ?_;refine EV.regionEnd (EV.seqC (EV.condC (t:=jz) Ac ?_));simp[bV];refine EV.skipC (EV.blockC (EV.seqC (EV.regionC (ops:=Aq2) ?_)));rw[show me Aq2.size = [0,1] from iW];(iterate 2 (refine Qjw ?_));refine EV.regionEnd (EV.regionC (ops:=Al6) ?_);rw[show me Al6.size = [0,1,2] from iW];refine EV.opPure (S:=env Lv) (fn:=43) (x:=.func (.func f) #[] cap) E iW Ac (B1 Ab) (A5 _ _) (λw=>by rw[←U];rfl) (λw=>Ac) ?_;refine Qjw ?_;refine EV.opClo (f:=f) (cap:=cap) (q:=.tmp 21) (args:=#[.tmp 22]) (ats:=#[35]) E iW Ac iW Ac Ac (by simp[E4]) (by simp[vsp];rfl) g ?_;rintro r Z⟨rfl,H⟩;refine EV.regionEnd (EV.inBlockC (EV.inLoopC (EV.seqC (EV.regionC (ops:=FY) ?_))));rw[show me FY.size = [0,1] from iW];refine EV.stop (C (λi=>([y 0,y 1,y 2,y 3,y 4,y 5,y 6,y 7,y 8,x,y 10,y 11,y 12,y 13,y 14,y 15,y 16,y 17,gq #[x,o0 jz],o0 jz,x,.func (.func f) #[] cap,x,gq #[],y 24,y 25,y 26,y 27,y 28,y 29]:iK).getD i re) Z H ?_);intro b l;have T:b<18:=Aa;match b,T with|0,_|1,_|2,_|3,_|4,_|5,_|6,_|7,_|8,_|10,_|11,_|12,_|13,_|14,_|15,_|16,_|17,_=>rfl|9,_=>omega
set_option maxRecDepth 100000 in
def Aeh(N y)(L:y 17=.chan (je N))(j w):stepG Z jz (Gy j z y) w=.comm (core (Gy j z y)) #[rcase N (xh zt 0 0)] jz (.recv jz) w #[]:=by rw[Gy];simp[FY,YJ,Xp,Kn,Code.opsOf,Code.one,Code.two,Code.core,nxu,bT,Ky,L];rw[stepG_comm T Ac Ad (cases:=#[rcase N (xh zt 0 0)]) (blocking:=jz) (shape:=.recv jz) (w':=w) (by simp[go_sem,execOp,rcase,vsp,fpg,zeroValue35]),listed_nil (by simp[go_sem,execOp,vsp,fpg,zeroValue35])];rfl
set_option maxRecDepth 100000 in
theorem Asu{C:NO}(H:C.P=ow)(v:C.ty=125)(y:Nat->p8)(I:y 8=vp (je ⟨C.Wg,0,zt⟩))(L:y 17=.chan (je C.Ch)){w:qi}(W:Fi C.ty C.Wg w)(m:∀R B,R.status=.running->Ue C.P (Iq z fun i=>if i=18 then gq #[xh zt 0 0,o0 vy] else if i=19 then o0 vy else if i=24 then gq #[] else y i) R B->C.PostA R B) :
  ARc C (Gy [.code Lm] z y) w:=by
 obtain⟨P,Shun,k,Wg,Ch,ty,LA,LB,KB,w0,PostA⟩:=C;simp only at H v I L W;subst H v;have T:Terms (RG 125 Wg) Go.Pair.D0:=⟨rgT,fun _=>⟨rfl,rfl⟩⟩;refine⟨rfl,xh zt 0 0,Aeh Ch y L _ w,fun d b=>?_⟩;have Y:=b W;clear b;refine⟨100+8,?_⟩;rw[Gy];rw [Yq (o:=FY[0]' Ad) rfl];simp [FY,JI,YJ,Xp,Kn,Code.opsOf,Code.one,Code.two,Code.core,nxu,bT,Ky];refine S7 rfl Ac Ad fun K b F p=>?_;replace Y:=b Y;clear b;try walk_nrm
 go_simp;refine p _ _ ⟨by co_quiet T,?_⟩;clear p F;try walk_nrm
 refine Thb ?_;refine Ckz ?_;refine Ds T rfl (fun w=>stepG_cond (t:=vy) rfl) ?_;refine Ds T rfl (fun w=>stepG_exit (k':=[.code Lm]) rfl) ?_;rw [show Lm=.seq (.region 11 YR vy) LS from rfl];refine Ckz ?_;refine C2y ?_;rw [show me YR.size = [0] from rfl];refine Goes.step rfl fun d b=>goes_call (f:=62) (fn:=Lib.waitFn Tryz.link) (c:=BV Tryz.link) rfl Ac Ad rfl Tryz.wgLib.3 Ac Ac ⟨T.2 _,?_⟩;replace Y:=b Y;clear b;rw [show Array.map (vsp ({ tmps:=#[y 0,y 1,y 2,y 3,y 4,y 5,y 6,y 7,vp (je ⟨Wg,0,zt⟩),y 9,y 10,y 11,y 12,y 13,y 14,y 15,y 16,.chan (je Ch),gq #[xh zt 0 0,o0 vy],o0 vy,y 20,y 21,y 22,y 23,y 24,y 25,y 26,y 27,y 28,y 29],defers:=[] }:Act)) #[Operand.tmp 8]=#[vp (je ⟨Wg,0,zt⟩)] by simp [vsp]];refine Arx (C:={ P:=ow,Shun,k,Wg,Ch,ty:=125,LA,LB,KB,w0,PostA }) Tryz.wgLib rfl (b₀:=pbq 43) (a₀:={ tmps:=#[y 0,y 1,y 2,y 3,y 4,y 5,y 6,y 7,vp (je ⟨Wg,0,zt⟩),y 9,y 10,y 11,y 12,y 13,y 14,y 15,y 16,.chan (je Ch),gq #[xh zt 0 0,o0 vy],o0 vy,y 20,y 21,y 22,y 23,y 24,y 25,y 26,y 27,y 28,y 29],defers:=[] }) (ops₀:=YR) (i₀:=0) (rest₀:=[]) (k₀:=[.code LS]) (cs:=z) _ Y (fun R a s X=>?_);obtain⟨nn,X⟩:=X;refine m R a s ⟨rfl,nn,Sy (fun _ _ h=>h) (fun _ _ _ h=>h) (fun x _ Z=>Z.trans ?_) X⟩;rw[Iq,Ky];simp [I,L];rfl
end
section
variable {L:Nt} {e p low:Nat} {x:Nat->Nat} {r:qi} {j Y:iH} {a:(Nat->Prop)->gy->qi->Prop}
structure Yk(c b f)(cap:iJ)(p3)(y:iL):Prop where
 h2:y 2=.func (.func f) #[] cap
 h3:y 3=p3
 h8:y 8=HZ c
 h17:y 17=.chan (je b)
def NR(c b:Nat)(f:mf)(cap:iJ)(p3:F)(z:List s9)(I:List (iE)->qi->Prop)(g:gy)(v:qi):Prop:=∃y,g=Gy [.code Lm] z y/\Yk c b f cap p3 y/\I [] v
def Apk(c b:Nat)(f:mf)(cap:iJ)(p3:F)(z:List s9)(I:List (iE)->qi->Prop)(g:gy)(v:qi):Prop:=∃y,g=Iq z y/\Yk c b f cap p3 y/\I [] v
def ZO(j:iH)(f:mf)(cap:iJ)(I:List (iE)->qi->Prop):Prop:=
 ∀b rest v,I (b::rest) v->∀Stop,Ba Z jz j Stop f (#[xh (je (iQ v.1.size)) (iY b) (iY b)]++cap) { v with heap:=v.1.push (pf (rowOf b) 5 (0,0)) } λr v'=>r=gq #[]/\I rest v'
def scA{I g}{d:List (iE)->qi->Prop}(o:∀Z v l,d Z v->d Z (World.at v l))(H:ZO j f I d):∀(F:iC) y v,Yk c b f I g y->d F v ->
  ScA (NP L b c K e p k x E r low j Y (NR c b f I g z d) a) (F.map rowOf) (Gy [.code Lm] z y) v:=by (have m:∀y,Yk c b f I g y->∃q,(NP L b c K e p k x E r low j Y (NR c b f I g z d) a).AtRecv q (Gy [.code Lm] z y):=λy U=>by refine⟨xh zt 0 0,T,λn w t=>?_⟩;rw[Nn];exact Aeh _ _ (by rw[U.4];simp[A2]) _ w);intro F;induction F with|nil=>exact λy v U V=>⟨m y U,y,T,U,V⟩|cons i s O=>intro y v U V;refine⟨m y U,?_⟩;show EV ow jz j _ (kt (core (Gy [.code Lm] z y)) (gq #[xh (je (iQ v.1.size)) (rowOf i).size (rowOf i).size,o0 jz])) _;rw[EM];exact Arb y f I _ U.1 (H i s v V _) λW u Q h l=>O W _ ⟨(h 2 Aa).trans U.1,(h 3 Aa).trans U.2,(h 8 Aa).trans U.3,(h 17 Aa).trans U.4⟩ (o _ _ _ Q)
noncomputable def Ae2{Bs u0 sb co bb pg q t f cap p3}{I:List (iE)->qi->Prop}(hI:∀ms v d,I ms v->I ms (World.at v d))(O:(NP L b c K e p k x E r low j Y (NR c b f cap p3 z I) (XF Y Bs u0 pg sb co bb e K q t)).Ok):Xo (NP L b c K e p k x E r low j Y (NR c b f cap p3 z I) (XF Y Bs u0 pg sb co bb e K q t)) where
 EndA:=Apk c b f cap p3 z I
 EndB:=XE Y Bs u0 pg sb co bb q t
 atA:=λg v d⟨y,h1,h2,h3⟩=>⟨y,h1,h2,hI _ _ _ h3⟩
 atB:=λS v d h=>CJ d h
 finA:=λg v⟨y,h1,h2,h3⟩=>by
  subst h1;refine⟨Iq z λi=>if i=18 then gq #[xh zt 0 0,o0 vy] else if i=19 then o0 vy else if i=24 then gq #[] else y i,⟨_,iW,⟨h2.1,h2.2,h2.3,h2.4⟩,h3⟩,λM hM=>?_,λKB w0' n w hG hc hg hw=>?_⟩
  ·rw[Nn]at hM;rw[Wx];have e1:z.map (Bp (.up M))=z:=by
    have:=aK bfb hM;exact this
   have e2:(Ky λi=>A2 (.up M) (y i))=Ky y:=by
    have:=aK (λg:gy=>g.1.2) hM;have h':(Ky λi=>A2 (.up M) (y i)).1=(Ky y).1:=this;have hd:(Ky λi=>A2 (.up M) (y i)).2=(Ky y).2:=iW;cases ha:(Ky λi=>A2 (.up M) (y i));cases hb:Ky y;rw[ha,hb]at h' hd;simp only at h' hd;rw[h',hd]
   simp[Ky,Act.mk.injEq,hU,dX,and_true,true_and]at e2;rw[Iq,e1]
   congr 1
   congr 1
   simp[Ky,e2,A2]
  ·rw[Nn,Wx];refine Asu iW iW _ (by rw[h2.3];simp[A2,Ew,hg];rfl) (by rw[h2.4];simp[A2];exact hc) hw λg' w' hr hb=>?_;refine cast ?_ hb
   congr 2
   funext i
   split
   ·simp[A2]
   ·split
    ·simp[A2]
    ·split
     ·simp[A2]
     ·rfl
 finB:=λS g v⟨⟨T,h1⟩,h2⟩=>⟨h2,λn w hG hc hg hw=>by
  subst h1;rw[Ag8,show sh n e=L.3 from hg,show sh n K=L.4 from hc];exact Atc O.2 _ w hw⟩
end
def call62(W B Cv Bv:Nat):Deferred:={ target:=.fn (.func 59) #[HZ W,HZ B,HZ Cv,HZ Bv],args:=#[] }
def Amw(W B J Y w):stepG Z vy (born Z (call62 W B J Y)) w =
  .go (G ((baseD 59).at ⟨#[HZ W,HZ B,HZ J,HZ Y,re,re,re,re,re],[]⟩ [.code KR]) [bot]) w #[]:=by simp[born,call62,stepG,unwind,callDeferred,invoke,callFunc,func59,f59,seen,GStep.after,G,Frame.enter,Frame.at,baseD,bot,KR]
structure IV(B Cv Bv Ch sb co bv)(w:qi):Prop where
 b:w.cell? (iQ B)=je (.chan (je Ch))
 c:w.cell? (iQ Cv)=je (vp (je (iR sb co)))
 v:w.cell? (iQ Bv)=je bv
 lb:B<iZ w.1
 lc:Cv<iZ w.1
 lv:Bv<iZ w.1
def SD(C:Nt):Terms C.RoR C.DRo:=⟨λ_ _ _ h k=>h.trans k,λw=>⟨T,Ae⟩⟩
noncomputable def T62(W B Cv Bv Ch sb co:Nat)(bv:F):Array F:=#[HZ W,HZ B,HZ Cv,HZ Bv,.chan (je Ch),vp (je (iR sb co)),bv,.chan (je Ch),re]
noncomputable def KY(W B Cv Bv Ch sb co:Nat)(bv:F):gy:=G ((pbq 61).at (Dl (J1 sb co) bv (.chan (je Ch)) re (λ_=>re)) [.code Jk]) [UK (T62 W B Cv Bv Ch sb co bv) W Ch,bot]
section
variable {C:Nt}
set_option maxRecDepth 100000 in
def Aj1{q B Cv Bv Ch sb co}{ba:iM}{bl bc}(Z:∀i,i=B∨i=Cv∨i=Bv->C.5 (.cell (iQ i)))(hF:IV B Cv Bv Ch sb co (xh ba bl bc) w):Goes ow vy C.RoR C.DRo (λg _=>g=KY q B Cv Bv Ch sb co (xh ba bl bc)) 15 (born ow (call62 q B Cv Bv)) w:=by
 have T:=SD C;have c:∀{w d:qi},IV B Cv Bv Ch sb co (xh ba bl bc) w->C.RoR w d->IV B Cv Bv Ch sb co (xh ba bl bc) d:=λh r=>⟨(r.2 _ (Z _ (zk iW)) h.4).trans h.b,(r.2 _ (Z _ (qx (zk iW))) h.5).trans h.c,(r.2 _ (Z _ (qx (qx iW))) h.6).trans h.v,aB h.4 r.1,aB h.5 r.1,aB h.6 r.1⟩;apply Ds T iW (λw=>Amw _ _ _ _ w);simp[KR,f59,bT];refine Ckz ?_;refine A80 ?_;apply Ds T iW (λw=>stepG_defer iW Ac Ad iW);walk_nrm;refine Thb ?_;refine Ckz ?_;refine A80 ?_;refine S7 iW Ac Ad λK b F a=>?_;replace hF:=c hF b;clear b;have p:=hF;have M:K.cell? (iQ B)=je (.chan (je Ch)):=p.b;go_simp;refine a _ _ ⟨⟨iW,?_⟩,?_⟩;co_evs (exact⟨_,iW,Z _ (zk iW),p.4⟩);clear a F M;try walk_nrm
 refine Ds T iW (λw=>Xf (c:=Ch) iW Ac Ad iW iW) ?_;walk_nrm;refine Thb ?_;refine A80 ?_;clear p;refine S7 iW Ac Ad λK b F a=>?_;replace hF:=c hF b;clear b;have p:=hF;have M:K.cell? (iQ Cv)=je (vp (je (iR sb co))):=p.c;go_simp;refine a _ _ ⟨⟨iW,?_⟩,?_⟩;co_evs (exact⟨_,iW,Z _ (qx (zk iW)),p.5⟩);clear a F M p;try walk_nrm
 refine S7 iW Ac Ad λK b F a=>?_;replace hF:=c hF b;clear b;have p:=hF;have M:K.cell? (iQ Bv)=je (xh ba bl bc):=p.v;go_simp;refine a _ _ ⟨⟨iW,?_⟩,?_⟩;co_evs (exact⟨_,iW,Z _ (qx (qx iW)),p.6⟩);clear a F M p;try walk_nrm
 refine S7 iW Ac Ad λK b F a=>?_;replace hF:=c hF b;clear b;have p:=hF;have M:K.cell? (iQ B)=je (.chan (je Ch)):=p.b;go_simp;refine a _ _ ⟨⟨iW,?_⟩,?_⟩;co_evs (exact⟨_,iW,Z _ (zk iW),p.4⟩);clear a F M p;try walk_nrm
 refine Goes.step iW λK b=>goes_call iW Ac Ad iW func61 Ac iW ⟨T.2 _,?_⟩;replace hF:=c hF b;clear b;walk_nrm;simp[ntmps61,cD,bF,cM,bD,aW,aR,Nat.reduceAdd,Nat.reduceSub,dL,dW,eQ,eD,bU,cS];intro e b;rfl
noncomputable def r6:gj:=Code.one (Code.two (Code.two (Code.two (Code.two (Code.two Kn)))))
noncomputable def QE:Array xe:=Code.opsOf r6
noncomputable def Agg:Array xe:=Code.opsOf (Code.one (Code.one Xp))
noncomputable def KQ(z:List s9)(y:iL):gy:=G ((pbq 43).at (Ky y) [.inRegion QE [],.code Xp]) z
set_option maxRecDepth 100000 in
def Anq{z Bx Ch}(Z:C.5 (.cell (iQ Bx)))(y)(a:y 7=HZ Bx)(M:w.cell? (iQ Bx)=je (.chan (je Ch)))(Y:Bx<iZ w.1):Goes ow jz C.RoR C.DRo (λg _=>g=Gy [.code Lm] z λi=>if i=17 then .chan (je Ch) else y i) 10 (KQ z y) w:=by
 have T:=SD C;have c:w.cell? (iQ Bx)=je (.chan (je Ch))/\Bx<iZ w.1:=⟨M,Y⟩;clear M Y;refine Thb ?_;rw[show Xp=.seq (.seq (.region 7 Agg vy) (.block 0 (.loop (.seq (.region 8 FY vy) JI)))) Lm from iW];iterate 2 (refine Ckz ?_)
 refine C2y ?_;refine S7 (o:=Agg[0]' Ad) iW Ac Ad λK b F p=>?_;replace c:K.cell? (iQ Bx)=je (.chan (je Ch))/\Bx<iZ K.1:=⟨(b.2 _ Z c.2).trans c.1,aB c.2 b.1⟩;have M:=c.1;simp only[Agg,Code.opsOf,Xp,Kn,Code.core,Code.one,Code.two,nxu,bT,Ky,a]at p⊢;go_simp;refine p _ _ ⟨⟨iW,?_⟩,?_⟩;co_evs (grind);clear p F M;try walk_nrm
 refine Thb ?_;apply Ds T iW (λw=>stepG_block);apply Ds T iW (λw=>stepG_loop);refine Ckz ?_;refine C2y ?_;rw[show me FY.size = [0,1] from iW];intro d b;rw[Gy,Ky];simp only[a];rfl
end
def Dy:Loc->Prop:=λ_=>False
structure JIn(J:iH)(N cb)(ob pg:iN):Prop where
 obj:∀r,¬J (.obj r)
 old:∀a,J (.cell a)->a.block<N/\a.block≠cb/\ob≠je a.block/\pg≠je a.block
def JIn.new{J N cb ob pg}(h:JIn J N cb ob pg)(V:N<=i)(j):¬J (.cell (iR i j)):=λl=>by have:=(h.2 _ l).1;simp at this;omega
def JIn.cb{J N cb ob pg}(h:JIn J N cb ob pg)(j):¬J (.cell (iR cb j)):=λl=>(h.old _ l).2.1 T
def JIn.ob{J N cb ob pg}(h:JIn J N cb ob pg)(V:ob=je i)(j):¬J (.cell (iR i j)):=λl=>(h.old _ l).2.2.1 V
def JIn.pg{J N cb ob pg}(h:JIn J N cb ob pg)(V:pg=je i)(j):¬J (.cell (iR i j)):=λl=>(h.old _ l).2.2.2 V
structure Fz(v cb co bsl st u):Prop where
 K:Ax v u iV
 size:iZ u.1=iZ v.1+5
 b0:u.1[iZ v.1]?=je (pf #[vp (je (iR cb co))] 114)
 b1:u.1[iZ v.1+1]?=je (pf #[bsl] 35)
 b2:u.1[iZ v.1+2]?=je (.chan 0 #[] vy 0 0 vy)
 b3:u.1[iZ v.1+3]?=je (pf #[.chan (je (iZ v.1+2))] 115)
 b4:u.1[iZ v.1+4]?=je (NF 125 st 0)
def Fz.at{v cb B a}(h:Fz v cb U B a u)(d):Fz v cb U B a (u.at d):=⟨h.K.at d,h.size,h.3,h.b1,h.b2,h.6,h.b4⟩
def yE(cb co N:Nat)(bsl clo x15 x16:F)(i:Nat):F:=([vp (je (iR cb co)),bsl,clo,HZ N,vp (je ⟨N+1,0,zt⟩),re,o0 vy,vp (je ⟨N+3,0,zt⟩),vp (je ⟨N+4,0,zt⟩),re,vp (je (iR cb co)),vp (je (iR cb co)),vp (je ⟨cb,co+1,zt⟩),o0 vy,.chan (je (N+2)),x15,x16,re,re,re,re,re,re,re,re,re,re,re,re,re]:iK).getD i re
noncomputable def r5:gj:=Code.one (Code.two (Code.two (Code.two (Code.two Kn))))
noncomputable def BN:gj:=Code.two (Code.two (Code.two (Code.two (Code.two Kn))))
noncomputable def AE:Array xe:=Code.opsOf r5
def Amg:∃d,prog.underlying 115=je (.chan d 35):=⟨_,underlying115⟩
def Afk:=Option.isSome_iff_exists.1 (by kernel_rfl:(prog.info? 35).isSome=jz)
def Aqv(w):(Instr.makeChan 115 (iS 0)).run Z w=.ok (.chan (je w.1.size)) (w.alloc (.chan 0 #[] vy 0 0 vy)):=by have ⟨d,y⟩:=Amg;have ⟨b,V⟩:=Afk;exact run_makeChan y V yh 0 Aa Aa
def An0(w X):(Instr.makeChan 115 (iS 0)).events Z w X=X:=by have ⟨d,y⟩:=Amg;have ⟨b,V⟩:=Afk;exact events_makeChan y V yh 0 Aa Aa X
def alz(w:qi)(o):(w.alloc o).1.size=iZ w.1+1:=Ae
def alk(w o):Ax w (w.alloc o) iV:=Ax.of_below (Bg _ _) (aA _)
def Ax.get{o}(h:Ax w B X)(V:w.1[i]?=je o)(Z:¬X i):=(h.block i (ltOf V) Z).trans V
section
variable {cb cap:Nat} {clo:p8} {fr:s9}
def X5(l):¬Dy l:=λh=>h
set_option maxRecDepth 100000 in
def Aap(g:v.cell? ⟨cb,co+1,zt⟩=je (o0 vy))(F:∀u,Fz v cb co (xh ba bl cap) 0 u->EV ow jz Dy N (G ((pbq 43).at (Ky (yE cb co v.1.size (xh ba bl cap) clo re re)) [.inRegion AE [0],.code BN]) (fr::cs)) u):EV ow jz Dy N (G ((pbq 43).at { tmps:=#[vp (je (iR cb co)),xh ba bl cap,clo]++o2 27 re,defers:=[] } [.code Kn]) (fr::cs)) v:=by
 have Y:cb<iZ v.1:=by exact Tdr
 simp[dL,dW,eQ,eD,bU,cS];simp[Kn,nxu,bT];apply EV.seqC;refine EV.piece (fn:=43) T T (Qq (Q:=λe c O=>e=.normal/\c = { tmps:=#[vp (je (iR cb co)),xh ba bl cap,clo,HZ v.1.size,vp (je ⟨iZ v.1+1,0,zt⟩),re,o0 vy,re,re,re,re,re,re,re,re,re,re,re,re,re,re,re,re,re,re,re,re,re,re,re],defers:=[] }/\O=(v.alloc (pf #[vp (je (iR cb co))] 114)).alloc (pf #[xh ba bl cap] 35)) ?_) ?_;simp[bD,aW,aR,Nat.reduceAdd,aY,me,p7];apply Dw (#[Value.pointer (je (iR cb co))]) 114;walk_nrm;apply Dq (S:=env Lv) T Ac (B1 Ab) (A5 _ _) (x:=vp (je ⟨iZ v.1+1,0,zt⟩)) (v':=(v.alloc (pf #[vp (je (iR cb co))] 114)).alloc (pf #[xh ba bl cap] 35)) (λd=>zk (by walk_nrm;go_simp;exact⟨alz _ _,T⟩)) Amf;walk_nrm;refine V2g ?_;exact Au ⟨T,T,T⟩;rintro e m Z⟨rfl,rfl,rfl⟩;generalize y:(v.alloc (pf #[vp (je (iR cb co))] 114)).alloc (pf #[xh ba bl cap] 35)=Z;have b:iZ Z.1=iZ v.1+2:=by rw[←y,alz,alz]
 have f:Ax v Z iV:=y▸(Bi v _ _ _).trans (Bi _ _ _ _)
 have x:Z.1[iZ v.1]?=je (pf #[vp (je (iR cb co))] 114):=y▸(alk _ _).get (iy _ _) λh=>h
 have P:Z.1[iZ v.1+1]?=je (pf #[xh ba bl cap] 35):=y▸alz v (pf #[vp (je (iR cb co))] 114)▸iy _ _
 clear y;refine EV.seqC (EV.seqC ?_);refine EV.piece (fn:=43) T T (Qq (Q:=λe c O=>e=.normal/\c = { tmps:=#[vp (je (iR cb co)),xh ba bl cap,clo,HZ v.1.size,vp (je ⟨iZ v.1+1,0,zt⟩),re,o0 vy,re,re,re,vp (je (iR cb co)),vp (je (iR cb co)),vp (je ⟨cb,co+1,zt⟩),o0 vy,re,re,re,re,re,re,re,re,re,re,re,re,re,re,re,re],defers:=[] }/\O=Z) ?_) ?_;simp[bD,aW,aR,Nat.reduceAdd,aY,me,p7];refine B8 (cellOf (j:=0) x T) (X5 _) ?_;walk_nrm;refine Wad ?_;refine B8 ((Bo (f.5 cb Y λh=>h)).trans g) (X5 _) ?_;walk_nrm;exact Au ⟨T,T,T⟩;rintro e m B⟨rfl,rfl,rfl⟩;refine EV.condC (t:=vy) T ?_;simp[cB,aX];refine EV.skipC (EV.seqC ?_);have I:(B.alloc (.chan 0 #[] vy 0 0 vy)).1.size=iZ v.1+3:=by rw[alz,b]
 refine EV.regionC ?_;simp[bD,aW,aR,Nat.reduceAdd,aY,me,p7];refine EV.opRob T T Ac λd=>⟨.chan (je (B.at d).1.size),(B.at d).alloc (.chan 0 #[] vy 0 0 vy),Aon (λn J=>?_) (zk ?_) ?_,?_⟩;have h:=Et (P:=ow) (n:=n) (RF 115 (iS 0));have e:A2 n (iS 0)=iS 0:=Ae;rwa[e]at h;have h:=Aqv (B.at d);go_simp;have h:=An0 (B.at d);intro e a;simp[go_sem,h]at a;walk_nrm;generalize l:(B.at d).alloc (.chan 0 #[] vy 0 0 vy)=E;have z:iZ E.1=iZ v.1+3:=by rwa[←l]
 have j:Ax B E iV:=l▸(alk (B.at d) _).ofAt
 have b2:E.1[iZ v.1+2]?=je (.chan 0 #[] vy 0 0 vy):=by have h:=iy (B.at d) (.chan 0 #[] vy 0 0 vy);rw[l]at h;have D:(B.at d).1.size=iZ v.1+2:=b;rwa[D]at h
 have D:(B.at d).1.size=iZ v.1+2:=b;rw[D];clear l;refine EV.opEv (S:=env Lv) (fn:=43) T T Ac (B1 Ab) (A5 _ _) (x:=vp (je ⟨iZ v.1+3,0,zt⟩)) (v':=World.alloc E (pf #[.chan zt] 115)) (λd=>zk (by walk_nrm;go_simp;exact⟨z,T⟩)) Amf ?_;walk_nrm;have p:(E.alloc (pf #[.chan zt] 115)).1.size=iZ v.1+4:=by rw[alz,z]
 have K:(E.alloc (pf #[.chan zt] 115)).1[iZ v.1+3]?=je (pf #[.chan zt] 115):=z▸iy _ _
 have W:Ax E (E.alloc (pf #[.chan zt] 115)) iV:=Bi _ _ _ _;generalize E.alloc (pf #[.chan zt] 115)=k at p K W⊢;refine EV.opEv (S:=env Lv) (fn:=43) T T Ac (B1 Ab) (A5 _ _) (x:=re) (v':=k.setCell ⟨iZ v.1+3,0,zt⟩ (.chan (je (iZ v.1+2)))) (λd=>qx ⟨by have M:=(show yg (k.at d) ⟨iZ v.1+3,0,zt⟩=_ from cellOf (j:=0) K T);have L:=(show ue (k.at d) ⟨iZ v.1+3,0,zt⟩=vy from Ej (j:=0) K);walk_nrm;go_simp;first|done|rfl,rfl⟩) (λd e a=>Co (X5 _)) ?_;walk_nrm;have w:(k.setCell ⟨iZ v.1+3,0,zt⟩ (.chan (je (iZ v.1+2)))).1.size=iZ v.1+4:=by rwa[size_setCell]
 have i:=Gk k (iZ v.1+3) 0 (.chan (je (iZ v.1+2)));have q:(k.setCell ⟨iZ v.1+3,0,zt⟩ (.chan (je (iZ v.1+2)))).1[iZ v.1+3]?=je (pf #[.chan (je (iZ v.1+2))] 115):=by rw[heap_setCell,aL T,K];rfl
 generalize k.setCell ⟨iZ v.1+3,0,zt⟩ (.chan (je (iZ v.1+2)))=s at w i q⊢;refine EV.regionEnd (EV.seqC (EV.regionC ?_));simp[bD,aW,aR,Nat.reduceAdd,aY,me,p7];refine EV.opEv (S:=env Lv) (fn:=43) T T Ac (B1 Ab) (A5 _ _) (x:=vp (je ⟨iZ v.1+4,0,zt⟩)) (v':=World.alloc s (NF 125 0 0)) (λd=>zk (by walk_nrm;go_simp;exact⟨w,T⟩)) Amf ?_;walk_nrm;refine EV.regionEnd (EV.seqC (EV.regionC ?_));have C:Ax s (s.alloc (NF 125 0 0)) iV:=alk _ _;have t:Ax E (s.alloc (NF 125 0 0)) (· = iZ v.1+3):=((W.mono λ_ h=>h.elim).trans i).trans (C.mono λ_ h=>h.elim);have r:Ax B (s.alloc (NF 125 0 0)) (· = iZ v.1+3):=(j.mono λ_ h=>h.elim).trans t;have H:Ax v (s.alloc (NF 125 0 0)) (· = iZ v.1+3):=(f.mono λ_ h=>h.elim).trans r;refine F _ ⟨⟨H.1,H.2,H.3,H.4,λA V _=>H.5 A V Aa⟩,by rw[alz,w],r.get x Aa,r.get P Aa,t.get b2 Aa,C.get q λh=>h,?_⟩;rw[←w];exact iy _ _
end
section
variable {Y:Fh} {J:iH} {cb:Nat} {a b:p8} {X:s9}
def Fz.set(g:Fz v cb U a 0 u):Fz v cb U a KK (u.setCell ⟨iZ v.1+4,0,zt⟩ (wy .u64 KK)):=by have K:=Gk u (iZ v.1+4) 0 (wy .u64 KK);refine⟨⟨K.1.trans g.K.1,K.2.trans g.K.2,K.3.trans g.K.3,aD g.K.4 K.4,λk V Z=>(K.5 k (aB V g.K.4) Aa).trans (g.K.5 k V Z)⟩,by rw[Go.Pair.size_setCell];exact g.2,K.get g.3 Aa,K.get g.4 Aa,K.get g.5 Aa,K.get g.6 Aa,?_⟩;rw[heap_setCell,aL T,g.7];rfl
def Q6(N:Nat):F:=.func (.func 59) #[] #[vp (je ⟨N+4,0,zt⟩),vp (je ⟨N+3,0,zt⟩),HZ N,vp (je ⟨N+1,0,zt⟩)]
def Wu(n y k)(E:k.map (Dh n)=k)(z):Bt n (G ((pbq 43).at (Ky y) k) z)=G ((pbq 43).at (Ky λi=>A2 n (y i)) k) (z.map (Bp n)):=by rw[E6,Hv,BE,E]
set_option maxRecDepth 100000 in
def Aer(E:∀j,¬J (.cell ⟨iZ v.1+4,j,zt⟩))(hF:Fz v cb U a 0 u)(F:∀d,EN Z Y J (G ((pbq 43).at (Ky (yE cb U v.1.size a b (gq #[]) re)) [.inRegion AE [],.code BN]) (X::cs)) ((u.setCell ⟨iZ v.1+4,0,zt⟩ (wy .u64 KK)).at d)):EN Z Y J (G ((pbq 43).at (Ky (yE cb U v.1.size a b re re)) [.inRegion AE [0],.code BN]) (X::cs)) u:=by
 intro n w p hs H;have c:Ev 125 (sh n (iZ v.1+4)) w 0 0:=by have:=hs.row hF.7 Ae E;rw[Ev,this];simp[NF]
 have f:Bt (.up u.1.size) (G ((pbq 43).at (Ky (yE cb U v.1.size a b (gq #[]) re)) [.inRegion AE [],.code BN]) (X::cs))=G ((pbq 43).at (Ky (yE cb U v.1.size a b (gq #[]) re)) [.inRegion AE [],.code BN]) (X::cs):=by have h:=hs.4.2;rw[Wu _ _ _ T]at h⊢;have S:(X::cs).map (Bp (.up u.1.size))=X::cs:=aK bfb h;have L:(Ky λi=>A2 (.up u.1.size) (yE cb U v.1.size a b re re i)).1=(Ky (yE cb U v.1.size a b re re)).1:=aK (λg:gy=>g.1.2) h;rw[S];congr 2;simp[Ky,yE]at L⊢;simp[L]
 have s:=Kj (w:=u) 0 hF.7;rw[Wu _ _ _ T];refine Aes (Wg:=sh n (iZ v.1+4)) (Ret:=Bt n (G ((pbq 43).at (Ky (yE cb U v.1.size a b (gq #[]) re)) [.inRegion AE [],.code BN]) (X::cs))) (Pd c) (λB r=>?_) (n:=100+1) ?_;obtain⟨d,rfl⟩:=r;have m:=(hs.setCell (x:=wy .u64 KK) s Ae f).at d;have e:A2 n (wy .u64 KK)=wy .u64 KK:=Ae;rw[e]at m;refine F d n _ p m ⟨λl h=>by have:=H.1 l h;have D:((w.setCell (Ic (sh n (iZ v.1+4))) (wy .u64 KK)).at d).1.size=iZ w.1:=Go.Pair.size_setCell _ _ _;rwa[D],H.2,H.3,(H.4.frame (G9 w ⟨sh n (iZ v.1+4),0,zt⟩ (wy .u64 KK) jz) λe he _=>?_).at d,λi V=>⟨(H.5 i V).1,by have D:((w.setCell (Ic (sh n (iZ v.1+4))) (wy .u64 KK)).at d).1.size=iZ w.1:=Go.Pair.size_setCell _ _ _;rw[D];exact(H.5 i V).2⟩⟩;simp at he;subst he;exact(hs.5 (.cell ⟨iZ v.1+4,0,zt⟩) ⟨_,s⟩ (E 0)).2;refine Goes.step T λK r=>goes_call (f:=58) (fn:=Lib.addFn Tryz.link) (c:=Sq Tryz.link) T Ac Ad T Tryz.wgLib.1 Ac Ac ⟨⟨T,T⟩,?_⟩;have e:Array.map (Ky λi=>A2 n (yE cb U v.1.size a b re re i)).eval #[Operand.tmp 8,Operand.const (Value.int IntKind.i64 1)]=#[vp (je ⟨sh n (iZ v.1+4),0,zt⟩),iS 1]:=by simp[vsp,Ky,yE,Ew]
 rw[e];have y:=Amr Tryz.wgLib (d:=sh n (iZ v.1+4)) (g:=pbq 43) (f:=Ky λi=>A2 n (yE cb U v.1.size a b re re i)) (a:=AE) (j:=0) (c:=[]) (k:=[.code BN]) (cs:=(X::cs).map (Bp n)) K (A6 c r);have L:Bt n (G ((pbq 43).at (Ky (yE cb U v.1.size a b (gq #[]) re)) [.inRegion AE [],.code BN]) (X::cs))=G ((pbq 43).at ((Ky λi=>A2 n (yE cb U v.1.size a b re re i)).put ((AE[0]?).bind (·.1)) (gq #[])) (.inRegion AE []::[.code BN])) ((X::cs).map (Bp n)):=by rw[Wu _ _ _ T];congr 2;simp[Ky,yE];rfl
 rwa[L]
set_option maxRecDepth 100000 in
def Ajp{c:gy->qi->Prop}(h:∀d,c (G ((pbq 43).at (Ky (yE cb U v.1.size a b (gq #[]) (Q6 v.1.size))) [.inRegion QE [1],.code Xp]) (X::cs)) (u.at d)):EV Z jz J c (G ((pbq 43).at (Ky (yE cb U v.1.size a b (gq #[]) re)) [.inRegion AE [],.code BN]) (X::cs)) u:=by apply EV.regionEnd;refine EV.seqC (EV.regionC (ops:=QE) ?_);simp[QE,r6,Code.opsOf,Code.one,Code.two,Kn,nxu,bT,Ky,yE];apply EV.opPure (S:=env Lv) (fn:=43) (x:=Q6 v.1.size) T T Ac (B1 Ab) (A5 _ _) Ami Ami;exact EV.stop h
end
open Go.Maps
def Hu{e size:Nat}{v}{X:iK}(h:w.ownsRow a e size v n X)(E:∀g,a<=g->g<iZ w.1->B.1[g]?=w.1[g]?):B.ownsRow a e size v n X:=by obtain⟨F,C|⟨g,I,H,C,J,T,q⟩⟩:=h;exact⟨F,zk C⟩;exact⟨F,qx ⟨g,I,H,C,J,Aj,q⟩⟩
def VG{e size:Nat}{x}{X:iK}(h:w.ownsRow b e size x n X)(D:a<=b):w.ownsRow a e size x n X:=by obtain⟨F,C|⟨g,I,H,C,J,T⟩⟩:=h;exact⟨F,zk C⟩;exact⟨F,qx ⟨g,I,H,C,aD D J,T⟩⟩
abbrev ints(zs:List Int):List F:=zs.map λz=>iS z
abbrev Fp(ss:List (Int×Nat)):List (F×F):=ss.map λq=>(iS q.1,HZ q.2)
section
variable {J:iH} {Stop:gy->qi->Prop}
structure FI(J Bs u)(bx bl l it sm:Nat)(lo ss zs R w):Prop where
 kept:Ax u w iV
 W:VW J Bs w
 loop:Gn w l lo
 dfr:w.1[bl]?=je (.deferred (je []))
 rng:Mz w sm it (Fp ss) (Fp R)
 box:∃sv,w.1[bx]?=je (pf #[sv] 256)/\w.ownsRow (it+1) 3 1 sv (iY zs) (ints zs)
def FI.at{W sm s ss V R}(H:FI J Bs u W y l a sm s ss V R w)(d):FI J Bs u W y l a sm s ss V R (w.at d):=⟨H.kept.at d,H.W.at d,H.loop,H.4,H.5.keep T T,H.box⟩
def PU{a b:Type}[DecidableEq a](f:a->b):∀{l} {Z},l.Perm (Z.map f)->∃c:List a,l=c.map f/\c.Perm Z
 |[],Z,h=>by simp_all|p::l,Z,h=>by obtain⟨q,d,rfl⟩:=aZ.1 (h.mem_iff.1 cG);have C:=List.perm_cons_erase d;obtain⟨c,rfl,T⟩:=PU f ((h.trans (C.map f)).cons_inv);exact⟨q::c,iW,(T.cons q).trans C.symm⟩
def WG{p i R}(h:(p::i).Perm (Fp R)):∃q f,p=(iS q.1,HZ q.2)/\i=Fp f/\(q::f).Perm R:=by have ⟨Z,a,b⟩:=PU _ h;cases Z with|nil=>cases a|cons q Z=>grind
section
variable {a:iJ} {k:List Item} {b:iO} {x:p8} {S:Env}
def EV.ropP(O:g[i]?=je o)(W:jq o (yw g a)=jz)(y:∀c,o.op≠.defer c)(V:Pl P S f o)(j:S.reg f a)(Y:∀w,(execOp (rev a).eval o).run P w=.ok (.value x) w)(N:∀w,(execOp (rev a).eval o).events P w #[]=#[])(h:EV P e J Stop (G (Mb l f (Ia o.dst x a) (.inRegion g b::k)) cs) v):=
 EV.ropR O W y λd=>⟨x,v.at d,Te V j Y N,EV.at h d⟩
def EV.ropE(O:g[i]?=je o)(W:jq o (yw g a)=jz)(y:∀c,o.op≠.defer c)(V:Pl P S f o)(j:S.reg f a)(Y:∀d,Go.Pair.Yields P (execOp (rev a).eval o) (v.at d) x (v'.at d))(N:∀d,∀h∈(execOp (rev a).eval o).events P (v.at d) #[],Gp J h)(m:EV P e J Stop (G (Mb l f (Ia o.dst x a) (.inRegion g b::k)) cs) v'):=
 EV.ropR O W y λd=>⟨x,v'.at d,Sb V j (Y d) (N d),EV.at m d⟩
end
def EV.ropL{b}{a:iJ}{k}{c:iO}{S}(W:VW J Bs v)(O:g[i]?=je o)(w:jq o (yw g a)=jz)(y:∀d,o.op≠.defer d)(V:Pl Z S f o)(j:S.reg f a){R:iP}{X}(t:∀r,J (.obj r)->¬X r)(H:∀L,Z5 Bs v L->∃x p,Go.Pair.Yields Z (execOp (rev a).eval o) L x p/\R x p/\Ax L p X)(F:∀x U p,Ax v U X->VW J Bs U->(∀i,¬Bs i->p.1[i]?=U.1[i]?)->iZ p.1=iZ U.1->R x p->EV Z b J Stop (G (Mb l f (Ia o.dst x a) (.inRegion g c::k)) cs) U):EV Z b J Stop (G (Mb l f a (.inRegion g (i::c)::k)) cs) v:=λQ=>EV.ropR O w y (λh=>by have ⟨x,u,C,e,T,L,s,q,z⟩:=EL V j W.1 W.blind W.low (R:=λx p=>∃L,Z5 Bs v L/\R x p/\Ax L p X) (λL s=>let⟨x,p,m,A,B⟩:=H L s;⟨x,p,m,L,s,A,B⟩) h Q;have K:=Qf s e (.refl u) z T;exact⟨x,_,C,F x _ u K (W.kx (λi n=>D7 e n) λr Y=>K.5 r (W.low.2 r Y) (t r Y)) (λi D=>(Bz D).symm) (by rw[Bn]) q⟩) Q
noncomputable def Ad2:gj:=match f222.body with|some (.seq _ (.seq (.seq _ (.block _ (.rangeFunc _ _ c _))) _))=>c|_=>.skip
noncomputable def Ad5:gj:=match f222.body with|some (.seq _ (.seq (.seq _ (.block _ (.rangeFunc _ _ _ c))) _))=>c|_=>.skip
noncomputable abbrev I6(bx bl:Nat)(seq:F):Loop:={ state:=.ready,pending:=zt,fn:=222,tmps:=#[xh zt 0 0,seq,HZ bx,re,xh zt 0 0,re,seq,re,re,re,re,re,re],params:=#[7],assign:=Ad2,body:=Ad5,defers:=bl }
def rn:(∀(a:iJ) i d,a.getD i d=a[i]?.getD d)/\(∀(l:iK)(i:Nat),l.toArray[i]?=l[i]?)/\(∀(a:F) l i,(a::l)[i+1]?=l[i]?)/\(∀(a:F) l,(a::l)[0]?=je a)/\(∀a d:F,(je a).getD d=a)/\(∀l:List F,l.toArray.size=iY l)/\(∀(a:F) l,(a::l).length=iY l+1)/\([]:iK).length=0/\(∀(l:iK) i a,l.toArray.setIfInBounds i a=(l.set i a).toArray)/\(∀(a:F) l i b,(a::l).set (i+1) b=a::l.set i b)/\∀(a:F) l b,(a::l).set 0 b=b::l:=by refine⟨?_,?_,?_,?_,?_,?_,?_,?_,?_,?_,?_⟩<;>intros<;>first|rfl|simp
def Gf(v r)(V:i≠l):(Fq v l r).1[i]?=v.1[i]?:=aE (dH V)
def ET{v o}(h:v.1[l]?=je o)(r):Gn (Fq v l r) l r:=aT (ltOf h)
def VW.setL(W:VW J Bs w){l}(X:¬Bs l)(a:¬J (.obj l))(r):=W.kx (λi V=>Gf w r (λe=>by subst e;exact X V)) λi V=>Gf w r (λe=>by subst e;exact a V)
def Ax.setL(h:Ax w B X){l}(K:iZ w.1<=l)(r):Ax w (Fq B l r) X:=⟨h.1,h.2,h.3,by rw[MU];exact h.4,λk E Z=>(Gf B r Aa).trans (h.5 k E Z)⟩
def Tryz.info3:(prog.info? 3).map (λi=>(i.zero,i.size,i.bytes))=je (je (iS 0),1,8):=Ab
def EP(w a g d V z)(O:w.ownsRow a 3 1 d (iY V) (ints V))(G:w.1[g]?=je (pf #[iS z] 3))(K:iY V<=100)(D:a<=iZ w.1):∃t B,(Builtin.append_ #[256,256] 256 #[d,xh (je (iQ g)) 1 1]).run ow w=.ok t B/\B.ownsRow a 3 1 t (V++[z]).length (ints (V++[z]))/\Ax w B (λi=>d.ownBlock=je i):=by have ⟨b,c,v,W,f⟩:=info_parts Tryz.info3;(have M:∀j(u:F),([iS z]:iK)[j]?=je u->w.cell? (((iQ g):Addr).add j)=je u:=λj u r=>by cases j with|zero=>simp at r;subst r;exact cellOf G iW|succ j=>simp at r);have ⟨U,B,Y,J,T,q⟩:=run_append_own w a 256 256 3 b _ 1 8 underlying256 c v W f iW Ad d (iY V) _ O (iQ g) 1 1 [iS z] iW M (by intro u r;simp at r;subst r;rfl) Aio Aa D;refine⟨U,B,Y,by simpa[ints] using J,T.1,T.2,T.3,T.4,λk E Z=>T.5 k E λe=>Z e.symm⟩
def Ahh{W seq F R V}(a)(ay:iZ u.1<=W)(a6:iZ u.1<=l)(az:W<j)(P:W≠l)(I:¬J (.obj l))(nl:¬Bs l)(ak:¬Bs W)(b5:l<j)(b6:sm<iZ u.1)(b7:y<j)(a7:y≠l)(al:y≠W)(e:FI J Bs u W y l j sm (I6 W y seq) F V R w)(f cs)(b8:iY V<=99)(a8:∀i,Bs i->i<iZ u.1)(ao:∀B,Ax u B iV->VW J Bs B->Gn B l (I6 W y seq)->B.1[y]?=je (.deferred (je []))->Mz B sm j (Fp F) (Fp R)->(∃A,B.1[W]?=je (pf #[A] 256)/\B.ownsRow (j+1) 3 1 A (V++[a]).length (ints (V++[a])))->EV ow jz J Stop (G (f.finish (o0 jz)) cs) B):EV ow jz J Stop (G (Mb l 222 #[xh zt 0 0,seq,HZ W,re,xh zt 0 0,re,seq,iS a,re,re,re,re,re] [.code Ad2,.beginRound,.code Ad5]) (f::cs)) w:=by
 rw[Ad2,Ad5];simp[f222];refine EK ?_;refine D1b ?_;refine Sa ?_;refine EV.begin e.3 iW I λx=>?_;obtain⟨A,hb,z⟩:=e.6;have K:=(e.W.at x).setL nl I { I6 W y seq with state:=.busy };have n:=(e.1.at x).setL a6 { I6 W y seq with state:=.busy };have L0:=ET (v:=w.at x) e.3 { I6 W y seq with state:=.busy };have s:∀i≠l,(Fq (w.at x) l { I6 W y seq with state:=.busy }).1[i]?=w.1[i]?:=λi h=>Gf (w.at x) _ h;generalize Fq (w.at x) l { I6 W y seq with state:=.busy }=b at K n L0 s⊢;have b9:j+1<=iZ b.1:=by obtain⟨_,_,_,_,_,_,_,_,O,_⟩:=e.5.1;have:=ltOf ((s j Aa).trans O);omega
 have aa:=(s W P).trans hb;refine Acf ?_;refine EK ?_;simp[Ia,rev,vsp,rn,bD,aW,aR,Nat.reduceAdd,bK,bH,bG,me,p7,aY];have ab:¬J (.cell (iQ W)):=λO=>ak (K.2 _ O);refine EV.ropE (S:=env Lv) iW Ac Ais (B1 Ab) (A5 _ _) (x:=A) (v':=b) (λd=>zk (by have M:(b.at d).cell? (iQ W)=je A:=cellOf (j:=0) aa iW;simp[Ia,rev,vsp,rn,bD,aW,aR,Nat.reduceAdd,bK,bH,bG,me,p7,aY];go_simp)) (λd=>by have M:(b.at d).cell? (iQ W)=je A:=cellOf (j:=0) aa iW;simp[Ia,rev,vsp,rn,bD,aW,aR,Nat.reduceAdd,bK,bH,bG,me,p7,aY];intro ad he;simp[go_sem,M]at he;subst he;exact Co ab) ?_;refine D1b ?_;refine EV.ropE (S:=env Lv) iW Ac Ais (B1 Ab) (A5 _ _) (x:=xh (je (iQ b.1.size)) 1 1) (v':=b.alloc (pf #[iS a] 3)) (λd=>zk (by simp[Ia,rev,vsp,rn,bD,aW,aR,Nat.reduceAdd,bK,bH,bG,me,p7,aY];go_simp;first|done|rfl|exact⟨rfl,rfl⟩)) (λd=>by simp[Ia,rev,vsp,rn,bD,aW,aR,Nat.reduceAdd,bK,bH,bG,me,p7,aY];intro ad he;simp[go_sem]at he) ?_;simp[Ia,rev,vsp,rn,bD,aW,aR,Nat.reduceAdd,bK,bH,bG,me,p7,aY];have H:=Bi b #[iS a] 3 iV;have T:=K.alloc #[iS a] 3;have af:(b.alloc (pf #[iS a] 3)).1[iZ b.1]?=je (pf #[iS a] 3):=iy _ _;generalize b.alloc (pf #[iS a] 3)=v1 at H T af⊢;have X:v1.ownsRow (j+1) 3 1 A (iY V) (ints V):=Hu (Hu z λm o _=>s m Aa) λm o L=>H.5 m L id;have I3:∀i,A.ownBlock=je i->j+1<=i:=λi h=>by obtain⟨_,⟨rfl,_⟩|⟨m,ah,ai,rfl,o,_⟩⟩:=X;cases h;simp[Value.ownBlock]at h;omega
 have aq:∀r,J (.obj r)->¬A.ownBlock=je r:=λr Y O=>by obtain⟨ba,z,M⟩:=T.3 r Y;obtain⟨_,⟨rfl,_⟩|⟨m,ah,ai,rfl,o,ae,_⟩⟩:=X;cases O;exact Kp6
 refine EV.ropL (S:=env Lv) (Bs:=Bs) T iW Ac Ais (B1 Ab) (A5 _ _) (X:=λi=>A.ownBlock=je i) (R:=λt L'=>L'.ownsRow (j+1) 3 1 t (V++[a]).length (ints (V++[a]))) aq (λar hs=>?_) ?_;obtain⟨t,B,Y,h1,h2⟩:=EP ar (j+1) b.1.size A V a (Hu X λm o L=>hs.same λN=>by have:=a8 m N;omega) ((hs.same (λO=>by have:=K.lt O;omega)).trans af) Aa (by rw[hs.size];have:=H.4;omega);refine⟨t,B,zk ?_,h1,h2⟩;simp[Ia,rev,vsp,rn,bD,aW,aR,Nat.reduceAdd,bK,bH,bG,me,p7,aY];rw[execOp];simp[resolve,invoke,builtin,bvb,Sem.run_pure,Result.andThen_ok,cD,bF,cM];simp[Ia,rev,vsp,rn,bD,aW,aR,Nat.reduceAdd,bK,bH,bG,me,p7,aY];rw[Y];rfl;rintro t v L' g W2 au bb av;simp[Ia,rev,vsp,rn,bD,aW,aR,Nat.reduceAdd,bK,bH,bG,me,p7,aY];have aj:v.ownsRow (j+1) 3 1 t (V++[a]).length (ints (V++[a])):=Hu av λm o _=>(au m λN=>by have:=a8 m N;omega).symm;have Q:∀i<j+1,i≠l->v.1[i]?=w.1[i]?:=λi h hl=>(g.5 i (by have:=H.4;omega) (λO=>by have:=I3 i O;omega)).trans ((H.5 i Aa id).trans (s i hl));have D:v.1[W]?=je (pf #[A] 256):=(Q W Aa P).trans hb;obtain⟨C,p,U,rfl⟩:∃aw E f,t=xh aw E f:=by obtain⟨_,⟨rfl,_⟩|⟨m,ah,ai,rfl,_⟩⟩:=aj<;>exact⟨_,_,_,iW⟩
 refine EV.ropE (S:=env Lv) iW Ac Ais (B1 Ab) (A5 _ _) (x:=re) (v':=v.setCell (iQ W) (xh C p U)) (λd=>qx ⟨by have M:(v.at d).cell? (iQ W)=je A:=cellOf (j:=0) D iW;have a1:(v.at d).frozen? (iQ W)=vy:=Ej (W:=v) (j:=0) D;simp[Ia,rev,vsp,rn,bD,aW,aR,Nat.reduceAdd,bK,bH,bG,me,p7,aY];go_simp;first|done|rfl,rfl⟩) (λd=>by have M:(v.at d).cell? (iQ W)=je A:=cellOf (j:=0) D iW;have a1:(v.at d).frozen? (iQ W)=vy:=Ej (W:=v) (j:=0) D;simp[Ia,rev,vsp,rn,bD,aW,aR,Nat.reduceAdd,bK,bH,bG,me,p7,aY];intro ad he;simp[go_sem,M,a1,rxk _ _ _ _ (Value.slice _ _ _) qwf iW,gi]at he;subst he;exact Co ab) ?_;simp[Ia,rev,vsp,rn,bD,aW,aR,Nat.reduceAdd,bK,bH,bG,me,p7,aY];have k:Cb v (v.setCell (iQ W) (xh C p U)) W #[xh C p U] 256:=(Cb.refl D).set 0 _;have W3:VW J Bs (v.setCell (iQ W) (xh C p U)):=W2.set W 0 _;generalize v.setCell (iQ W) (xh C p U)=c at k W3⊢;have q:∀i<iZ v.1,i≠W->c.1[i]?=v.1[i]?:=λi h J4=>k.2.5 i h (λO=>J4 (by cases O;rfl));have bc:j+1<=iZ v.1:=by have:=H.4;have:=g.4;omega
 have L3:Gn c l { I6 W y seq with state:=.busy }:=(q l Aa (dH P)).trans ((g.5 l (by have:=H.4;omega) (λO=>by have:=I3 l O;omega)).trans ((H.5 l Aa id).trans L0));refine Sa (RM ?_);refine EV.endRound L3 I λZ=>?_;have ax:Ax u c iV:=by refine⟨k.2.1.trans (g.1.trans (H.1.trans n.1)),k.2.2.trans (g.2.trans (H.2.trans n.2)),k.2.3.trans (g.3.trans (H.3.trans n.3)),aD (aD (aD n.4 H.4) g.4) k.2.4,λE hk _=>?_⟩;rw[q E (by have:=n.4;have:=H.4;have:=g.4;omega) Aa,Q E Aa Aa];exact e.1.5 E hk id
 refine ao _ ((ax.at Z).setL a6 _) ((W3.at Z).setL nl I _) (ET (v:=c.at Z) L3 _) ?_ ?_ ⟨xh C p U,?_,?_⟩;rw[Gf (c.at Z) _ a7];show c.1[y]?=_;rw[q y Aa al,Q y Aa a7];exact e.4;refine e.5.keep ?_ ?_;rw[Gf (c.at Z) _ Aa];show c.1[sm]?=_;rw[q sm Aa Aa,Q sm Aa Aa];rw[Gf (c.at Z) _ Aa];show c.1[j]?=_;rw[q j Aa Aa,Q j Aa Aa];rw[Gf (c.at Z) _ P];exact k.1;refine Hu aj λm o L=>?_;rw[Gf (c.at Z) _ Aa];exact q m L Aa
def Aqe(A:iJ)(v):((#[7]:Array Tmp).zip #[v]).foldl (λa x=>a.setIfInBounds x.1 x.2) A=A.setIfInBounds 7 v:=by simp
noncomputable def Apy:gj:=match f208.body with|some c=>c|none=>.skip
def Aj4(a1:VW J Bs B)(i:∀v,Bs v->v<iZ u.1)(A:Ax u B iV)(a y l sm Q seq F)(h8:iY F<=99)(aa:iZ u.1<=a)(ad:iZ u.1<=l)(b6:iZ u.1<=y)(ae:a≠l)(ai:y≠l)(aj:y≠a)(ao:sm<iZ u.1)(c:¬Bs sm)(aq:¬Bs Q)(N:Gn B l (I6 a y seq))(x:B.1[y]?=je (.deferred (je [])))(D:B.1[a]?=je (pf #[xh zt 0 0] 256))(hm:Bq ow 3 B sm (Fp F))(Z:B.1[Q]?=je (pf #[.map (je sm)] 90)):Kk ow jz J Stop 208 Apy (λz a' m=>(z=.normal∨z=.ret)/\a'.defers = []/\∃it V,FI J Bs u a y l it sm (I6 a y seq) F V [] m/\V.Perm (F.map jw)/\a<it/\y<it/\l<it) ⟨#[.func (.yield l) #[] #[],HZ Q,re,re,re,re,re,re,re,re,re,re,re,re],[]⟩ B:=by
 have C:¬J (.obj l):=λh=>by obtain⟨E,d,hc⟩:=a1.3 l h;rw[show B.1[l]?=je (.loop (I6 a y seq)) from N]at d;cases d;cases hc
 rw[Apy];simp[f208];refine G9s ?_;refine B8 (cellOf (j:=0) Z iW) (λh=>aq (a1.2 _ h)) ?_;walk_nrm;refine Eo (S:=env Lv) a1 iW Ac (B1 Ab) (A5 _ _) (X:=λ_=>False) (R:=λW I=>W=HZ B.1.size/\Mz I sm B.1.size (Fp F) (Fp F)) (λ_ _ h=>h) (λL s=>?_) ?_;obtain⟨E,e,g⟩:=Bq.rangeL (hm.of_block (s.same c)) underlying90;rw[s.size]at e g;exact⟨_,_,zk U1y,⟨iW,g⟩,Ax.of_below (Bg _ _) (aA _)⟩;rintro W ay I af ak bd cz⟨rfl,ar⟩;walk_nrm;refine K9h ?_;have O:¬Bs B.1.size:=λh=>by have:=a1.lt h;omega
 have H3:FI J Bs u a y l B.1.size sm (I6 a y seq) F [] F ay:=by refine⟨A.trans af,ak,af.get N id,af.get x id,ar.keep (bd _ c).symm (bd _ O).symm,⟨_,af.get D id,iW,zk ⟨iW,iW⟩⟩⟩
 have P:=ltOf D;have b2:=ltOf x;have U:l<iZ B.1:=ltOf N;refine D9 ?_;refine Pk (n:=iY F) (I:=λn X w=>∃V R Y j6 j7 j8 j9 a6 al am a7,n=iY R/\iY V+iY R<=99/\(V++R.map jw).Perm (F.map jw)/\X=⟨#[.func (.yield l) #[] #[],HZ Q,re,Y,.map (je sm),HZ B.1.size,j6,j7,j8,j9,a6,al,am,a7],[]⟩/\FI J Bs u a y l B.1.size sm (I6 a y seq) F V R w) ?_ ⟨[],F,re,re,re,re,re,re,re,re,re,iW,by simpa using h8,by rw[bU],iW,H3⟩;rintro n X w⟨V,R,Y,j6,j7,j8,j9,a6,al,am,a7,rfl,b7,ab,rfl,H⟩;refine G9s ?_;have au:∀r,J (.obj r)->¬r=iZ B.1:=λr e h=>by obtain⟨E,d,_⟩:=a1.3 r e;have:=ltOf d;omega
 refine Eo (S:=env Lv) H.W iW Ac (B1 Ab) (A5 _ _) (X:=(· = iZ B.1)) (R:=λW I=>((R = []/\W=gq #[o0 vy]/\Mz I sm B.1.size (Fp F) (Fp R))∨∃q f,(q::f).Perm R/\W=gq #[o0 jz,iS q.1,HZ q.2]/\Mz I sm B.1.size (Fp F) (Fp f)/\∀W:qi,W.1[sm]?=I.1[sm]?->W.1[iZ B.1]?=I.1[iZ B.1]?->(Instr.entry (HZ B.1.size)).run ow W=.ok (gq #[iS q.1,HZ q.2]) W)) au (λL s=>?_) ?_;rcases Mz.next (P:=ow) (H.5.keep (s.same c) (s.same O)) 0 with⟨h0,e⟩|⟨b8,R',av,I,e,g,j,b9,M⟩;exact⟨gq #[o0 vy],L,zk U1y,zk ⟨(List.map_eq_nil_iff.1 h0),iW,H.5.keep (s.same c) (s.same O)⟩,Ax.refl _ _⟩;obtain⟨q,f,rfl,rfl,G⟩:=WG av;exact⟨_,I,zk U1y,qx ⟨q,f,G,iW,g,M⟩,Ax.of_grown j (zk iW)⟩;rintro W u4 L4 b W4 T ba S;walk_nrm;have bb:iZ B.1<iZ w.1:=by obtain⟨_,_,_,_,_,_,_,_,h,_⟩:=H.5.1;exact ltOf h
 have ah:Ax u u4 iV:=⟨b.1.trans H.1.1,b.2.trans H.1.2,b.3.trans H.1.3,aD H.1.4 b.4,λa8 hk Z=>(b.5 a8 (aB hk H.1.4) (by have:=A.4;omega)).trans (H.1.5 a8 hk Z)⟩;obtain⟨sv,aw,ax⟩:=H.6;have ag:=b.get H.3 Aa;have D4:=b.get H.4 Aa;have B4:=b.get aw Aa;have O4:u4.ownsRow (iZ B.1+1) 3 1 sv (iY V) (ints V):=Hu ax λk j o=>b.5 k o Aa;obtain⟨rfl,rfl,K⟩|⟨q,f,G,rfl,K,M⟩:=S;refine T03 ?_;refine Av ?_;refine A3 (t:=vy) Ac ?_;simp[bV,cB,aX];refine Kd ?_;simp only[Az,As,bV];exact⟨zk trivial,trivial,iZ B.1,V,(⟨ah,W4,ag,D4,K.keep (T _ c).symm (T _ O).symm,⟨sv,B4,O4⟩⟩),by simpa using ab,P,b2,U⟩;refine T03 ?_;refine Av ?_;refine N5y ?_;refine Pv2 ?_;refine D9 ?_;refine G9s ?_;refine Eo (S:=env Lv) W4 iW Ac (B1 Ab) (A5 _ _) (X:=λ_=>False) (R:=λW I=>W=gq #[iS q.1,HZ q.2]) (λ_ _ h=>h) (λL s=>?_) ?_;refine⟨_,L,zk ?_,iW,Ax.refl _ _⟩;rw[execOp];walk_nrm;simp only[bvb,(M L ((s.same c).trans (T _ c).symm) ((s.same O).trans (T _ O).symm))];rfl;rintro W u5 L5 t W5 bc bf rfl;walk_nrm;refine Wad ?_;refine K9h ?_;refine G9s ?_;refine Wad ?_;have H5:FI J Bs u a y l B.1.size sm (I6 a y seq) F V f u5:=⟨ah.trans t,W5,t.get ag id,t.get D4 id,(K.keep (T _ c).symm (T _ O).symm).keep (t.5 _ (by have:=b.4;have:=A.4;omega) id) (t.5 _ (by have:=b.4;omega) id),⟨sv,t.get B4 id,Hu O4 λk j o=>t.5 k o id⟩⟩;have bg:iY f+1=iY R:=by have:=G.length_eq;simpa using this
 refine VE (r:=I6 a y seq) (l:=l) (Post:=λm=>FI J Bs u a y l B.1.size sm (I6 a y seq) F (V++[q.1]) f m) iW Ac iW Ac H5.3 Ac C Ac (by first|rfl|(simp[E4];done)|kernel_rfl) (λaz b5 cs hn=>?_) ?_;have bh:=Ahh (J:=J) (Bs:=Bs) (Stop:=Stop) (seq:=seq) q.1 aa ad P ae C (λh=>by have:=i l h;omega) (λh=>by have:=i a h;omega) U ao b2 ai aj (H5.at az) b5 cs Aa i (λm h1 h2 h3 h4 h5 h6=>hn m ⟨h1,h2,h3,h4,h5,h6⟩);walk_nrm;rwa[Aqe];intro m p;walk_nrm;refine T03 ?_;refine A3 (t:=vy) Ac ?_;simp only[bV,cB,aX];refine Bm ?_;simp only[Az,As];refine⟨iY f,Aa,V++[q.1],f,_,_,_,_,_,_,_,_,_,iW,Ai,?_,iW,p⟩;rw[bY];exact((G.map jw).append_left V).trans ab
def TH(W:VW J Bs u)(sm Q F)(L:Bq ow 3 u sm (Fp F))(K:¬Bs sm)(b:u.1[Q]?=je (pf #[.map (je sm)] 90))(w:¬Bs Q)(I:iY F<=99):Ba ow jz J Stop 222 #[xh zt 0 0,.func (.func 208) #[] #[HZ Q]] u λx O=>Ax u O iV/\VW J Bs O/\∃V,V.Perm (F.map jw)/\O.ownsRow u.1.size 3 1 x (iY V) (ints V):=by
 apply BY func222 Ac iW (R:=λa6=>a6.getD 4 re) (λ_ _=>ump Ac _ _ _) (λ_ _=>lhy Ac _ _);simp[ntmps222,na,Nat.reduceAdd,Nat.reduceSub];refine G9s ?_;refine Dw #[xh zt 0 0] 256 ?_;walk_nrm;refine T03 ?_;have X:=Bi u #[xh zt 0 0] 256 iV;have P:=W.alloc #[xh zt 0 0] 256;have M:(u.alloc (pf #[xh zt 0 0] 256)).1[iZ u.1]?=je (pf #[xh zt 0 0] 256):=iy _ _;have q:(u.alloc (pf #[xh zt 0 0] 256)).1.size=iZ u.1+1:=Ae;generalize u.alloc (pf #[xh zt 0 0] 256)=Z at X P M q⊢;refine N2m ?_;refine T03 ?_;refine D9 ?_;have m:∀r,iZ Z.1<=r->¬J (.obj r):=λr Y h=>by obtain⟨s,c,_⟩:=P.3 r h;have:=ltOf c;omega
 refine GK (h:=208) (cap:=#[HZ Q]) (λa=>∃l V,FI J Bs u u.1.size Z.1.size (iZ Z.1+1) l sm (I6 u.1.size Z.1.size (.func (.func 208) #[] #[HZ Q])) F V [] a/\V.Perm (F.map jw)/\iZ u.1<l/\iZ Z.1<l/\iZ Z.1+1<l) Ac Ac func208 Ac iW (λ_ _=>results_none Ac _ _ _) (λ_ _=>events_results_none Ac _ _) (λd=>?_) (m _ Aa) ?_;simp[ntmps208,na,Nat.reduceAdd,Nat.reduceSub];have e:Ax Z { Z.at d with heap:=(Z.1.push (.deferred (je []))).push (.loop (I6 u.1.size Z.1.size (.func (.func 208) #[] #[HZ Q]))) } iV:=⟨rfl,rfl,rfl,Ai,λk E _=>by grind⟩;exact Aj4 (P.ofK e (λ_ _ h=>h) λ_ _ h=>h) (λi j=>W.lt j) (X.trans e) u.1.size Z.1.size (iZ Z.1+1) sm Q _ F Aa (aA _) Aa Aa Aa Aa Aa L.lt K w (by show((Z.1.push _).push _)[iZ Z.1+1]?=_;grind) Aj (e.get M id) ((L.of_block (X.5 _ L.lt id)).of_block (e.5 _ (by have:=L.lt;omega) id)) (e.get (X.get b id) id);rintro a⟨l,V,H,n,C,v,T⟩;refine⟨_,H.3,iW,iW,λd=>?_⟩;simp[As,Az];obtain⟨z,D,c⟩:=H.6;have o:¬Bs (iZ Z.1+1):=λh=>by have:=P.lt h;omega
 have f:=(H.W.at d).setL o (m _ Aa) { I6 u.1.size Z.1.size (.func (.func 208) #[] #[HZ Q]) with state:=.exhausted };have B:=(H.1.at d).setL (l:=iZ Z.1+1) Aa { I6 u.1.size Z.1.size (.func (.func 208) #[] #[HZ Q]) with state:=.exhausted };have t:∀i≠iZ Z.1+1,(Fq (a.at d) (iZ Z.1+1) { I6 u.1.size Z.1.size (.func (.func 208) #[] #[HZ Q]) with state:=.exhausted }).1[i]?=a.1[i]?:=λi j=>Gf (a.at d) _ j;generalize Fq (a.at d) (iZ Z.1+1) { I6 u.1.size Z.1.size (.func (.func 208) #[] #[HZ Q]) with state:=.exhausted }=p at f B t⊢;refine G9s ?_;refine B8 (cellOf (j:=0) ((t u.1.size Aa).trans D) iW) (λh=>by have:=W.lt (W.2 _ h);simp at this) ?_;walk_nrm;refine T03 ?_;refine Ca ⟨qx iW,iZ Z.1,iW,((t Z.1.size Aa).trans H.4),m _ (aA _),λy=>⟨⟨B.1,B.2,B.3,by simp[Array.size_setIfInBounds];exact B.4,λk E b=>?_⟩,f.kx (λi j=>?_) (λi j=>?_),V,n,?_⟩⟩;show(p.1.setIfInBounds Z.1.size _)[k]?=_;rw[aE Aa];exact B.5 k E b;show(p.1.setIfInBounds Z.1.size _)[i]?=_;rw[aE (by have:=P.lt j;omega)];show(p.1.setIfInBounds Z.1.size _)[i]?=_;rw[aE (by have:=P.low.2 i j;omega)];walk_nrm;refine VG (Hu (Hu c λg G _=>t g Aa) λg G _=>?_) Aa;show(p.1.setIfInBounds Z.1.size _)[g]?=_;rw[aE Aa]
def Aeg(W:VW J Bs u)(sm Q F)(L:Bq ow 3 u sm (Fp F))(K:¬Bs sm)(Z:u.1[Q]?=je (pf #[.map (je sm)] 90))(w:¬Bs Q)(I:iY F<=99):Ba ow jz J Stop 206 #[.func (.func 208) #[] #[HZ Q]] u λx O=>Ax u O iV/\VW J Bs O/\∃V,V.Perm (F.map jw)/\O.ownsRow u.1.size 3 1 x (iY V) (ints V):=by apply Bh func206 Ac iW (λ_ _=>ump Ac _ _ _) (λ_ _=>lhy Ac _ _);simp[ntmps206,na,Nat.reduceAdd,Nat.reduceSub];refine G9s ?_;refine T03 ?_;refine G9s ?_;refine V2g ?_;apply A0 (TH W sm Q F L K Z w I) iW Ac iW Af;rintro x b⟨C,a,V,T,q⟩;walk_nrm;refine T03 ?_;refine Ca ⟨qx iW,iW,C,a,V,T,?_⟩;walk_nrm;exact q
end
structure Dt(J0)(v:qi)(cb co:Nat)(cT)(Ez:iJ)(pv)(p:iE)(ob:iN)(Cr cap)(bs:iE):Prop where
 glob:∀i<8,∃c e fz,v.1[i]?=je (pf c e fz)
 blk:v.1[cb]?=je (pf Ez cT)
 c0:Ez[co]?=je pv
 c1:Ez[co+1]?=je (o0 vy)
 own:v.ownsRow 0 5 1 pv (iY p) (A4 p)
 ints:IntsIn v pv
 cb8:8<=cb
 pg8:∀g,pv.ownBlock=je g->8<=g/\g≠cb/\ob≠je g
 brow:∀bb,ob=je bb->8<=bb/\bb≠cb/\∃c e fz,v.1[bb]?=je (pf c e fz)/\I9 c
 len:iY bs<=cap
 bby:bs≠[]->∃bb,ob=je bb/\Bytes v bb Cr bs
 jn:JIn J0 v.1.size cb ob pv.ownBlock
def Ke(ob:iN)(Cr n cap:Nat):F:=xh (ob.map λb=>(iR b Cr)) n cap
def J7(N cb:Nat)(ob pg:iN):List Nat:=[0,1,2,3,4,5,6,7,cb,N+4,N+2,N,N+1,N+3]++(ob.toList++pg.toList)
def U8(ob:iN):Nat:=14+iY ob.toList
def Jy(k:Nat):F->F
 |xh (je a) n c=>xh (je ⟨k,a.off,zt⟩) n c
 |x=>x
def Is(Ez:iJ)(co:Nat)(pvB:F):Array F:=((o2 Ez.size re).setIfInBounds co pvB).setIfInBounds (co+1) (o0 vy)
def Uk:Obj->Obj
 |pf c e fz=>pf #[] e fz
 |o=>o
def X8(u:qi)(N cb co:Nat)(cT:uy)(Ez:iJ)(pvB:F)(x:Nat):Obj:=
 if x=cb then pf (Is Ez co pvB) cT else if x=N+2 then .chan 0 #[] vy 0 0 vy else if x<8∨N<=x then Uk ((u.1[x]?).getD (pf #[] 0)) else(u.1[x]?).getD (pf #[] 0)
def Ja(u:qi)(N cb co:Nat)(cT:uy)(Ez:iJ)(ob:iN)(pv:F):qi:=
 {u with heap:=((J7 N cb ob pv.ownBlock).map (X8 u N cb co cT Ez (Jy (U8 ob) pv))).toArray }
def XG(co:Nat)(l:Loc):Prop:=(∃j,l=.cell ⟨8,j,zt⟩/\j≠co/\j≠co+1)∨l=.obj 10
section
variable {cb:Nat} {e:iJ} {p:iE} {ob:iN}
def Dt.cbN(E:Dt L v cb U r e d p ob K M W):=ltOf E.blk
def Dt.bbN(E:Dt L v cb U r e d p ob K M W){X}(h:ob=je X):=let⟨_,_,c,a,b,h,_⟩:=E.brow X h;ltOf h
def Dt.pgN(E:Dt L v cb U r e d p ob K M W){g}(h:d.ownBlock=je g):=Dj E.own h
def Tb(E:Dt L v cb U r e d p ob K M W):(J7 v.1.size cb ob d.ownBlock).Nodup:=by have C:=E.7;have J:=E.cbN;rw[J7];cases D:ob with|none=>(cases Q:d.ownBlock with|none=>simp only[cS,bU,bL,eZ,bM,dR,or_false,not_or,iA,p9,th8,and_true,not_false_eq_true];omega|some g=>have T:=E.8 g Q;have q:=E.pgN Q;exact W62)|some X=>have z:=E.9 X D;have f:=E.bbN D;cases Q:d.ownBlock with|none=>simp only[cS,bU,bL,eZ,bM,dR,or_false,not_or,iA,p9,th8,and_true,not_false_eq_true];omega|some g=>have T:=E.8 g Q;have q:=E.pgN Q;have b:X≠g:=λa=>T.2.2 (by rw[D,a]);exact W62
def Anu(E:Dt L v cb U r e d p ob K M W)(Z:x∈J7 v.1.size cb ob d.ownBlock):x<iZ v.1+5:=by have C:=E.7;have J:=E.cbN;simp only[J7,bC,bM,dR,or_false,gF]at Z;obtain Z|Z|Z:=Z;omega;have:=E.bbN Z;omega;have:=E.pgN Z;omega
def AY(E:Dt L v cb U r e d p ob K M W)(Z:x∈J7 v.1.size cb ob d.ownBlock)(I:¬(x<8∨iZ v.1<=x))(a:x≠cb):ob=je x∨d.ownBlock=je x:=by simp only[J7,bC,bM,dR,or_false,gF]at Z;obtain Z|Z|Z:=Z;omega;exact zk Z;exact qx Z
def idx_eq{l:iO}(z:l.Nodup)(C:l[i]?=je x)(J:l[j]?=je x):i=j:=by have ⟨m,a⟩:=aF.1 C;have ⟨P,b⟩:=aF.1 J;exact(List.getElem_inj z).1 (a.trans b.symm)
def LX{N pg X}(h:ob=je X):(J7 N cb ob pg)[14]?=je X:=by subst h;rfl
def LY{N}{pg:iN}{g}(h:pg=je g):(J7 N cb ob pg)[U8 ob]?=je g:=by subst h;cases ob<;>rfl
def AX(N pg):(J7 N cb ob pg).length=14+iY ob.toList+iY pg.toList:=by simp[J7];omega
def Wh{o}(h:(Ja u v.1.size cb U r e ob d).1[i]?=je o):∃x,(J7 v.1.size cb ob d.ownBlock)[i]?=je x/\o=X8 u v.1.size cb U r e (Jy (U8 ob) d) x:=by simp[Ja,ggd,aV,bA]at h;grind
def MA{x}(h:(J7 v.1.size cb ob d.ownBlock)[i]?=je x):(Ja u v.1.size cb U r e ob d).1[i]?=je (X8 u v.1.size cb U r e (Jy (U8 ob) d) x):=by simp[Ja,ggd,aV,h,aI]
def Mq:(Ja u v.1.size cb U r e ob d).1.size=14+iY ob.toList+iY d.ownBlock.toList:=by simp[Ja,bD,bR,AX]
def Tu(y):(Is e U y).size=e.size:=by simp[Is]
def N3(E:Dt L v cb U r e d p ob K M W)(y):(Is e U y)[U]?=je y/\(Is e U y)[U+1]?=je (o0 vy):=by have C:=(aJ.1 E.4).1;constructor;rw[Is];grind;rw[Is,aT (by simpa using C)]
def N9{n J}{c:iJ}{e a I}(h:Go.Pair.LikeO n J i (Obj.cells c e a) I):∃B,I=Obj.cells B e a:=by obtain h|⟨Q,B,S,R,C,b,_⟩|⟨_,h,_⟩|⟨B,S,R,C,b⟩:=h;exact⟨_,h⟩;grind;exact absurd T (h _ _ _);grind
def We(c:Dt L v cb U r e d p ob K M W){B a}(F:Fz v cb U B a u)(Z:I∈J7 v.1.size cb ob d.ownBlock)(J:I≠iZ v.1+2):∃b f g,u.1[I]?=je (pf b f g):=by have h:∀y(b:iJ)f(g:Nat×Nat),v.1[y]?=je (pf b f g)->∃b f g,u.1[y]?=je (pf b f g):=λy b f g G=>⟨b,f,g,F.K.get G λG=>G⟩;simp only[J7,bC,bM,dR,or_false,gF]at Z;obtain Z|Z|Z:=Z;by_cases i:I<8;obtain⟨b,f,g,G⟩:=c.1 I i;grind;by_cases j:I=cb;subst j;exact h _ _ _ _ c.2;have:I=iZ v.1+4∨I=iZ v.1∨I=iZ v.1+1∨I=iZ v.1+3:=Aa;obtain rfl|rfl|rfl|rfl:=this;exact⟨_,_,_,F.7⟩;exact⟨_,_,_,F.3⟩;exact⟨_,_,_,F.4⟩;exact⟨_,_,_,F.6⟩;obtain⟨_,_,b,f,g,G,_⟩:=c.9 I Z;exact h _ _ _ _ G;obtain⟨_,⟨G,_⟩|⟨E,k,l,G,_,T,_⟩⟩:=c.5;rw[G]at Z;cases Z;rw[G]at Z;(obtain rfl:E=I:=by simpa[Value.ownBlock] using Z);exact h _ _ _ _ T
def Ru(a:Dt L v cb U r e d p ob K M W)(J:ob=je I∨d.ownBlock=je I):∃c b f,v.1[I]?=je (pf c b f)/\I9 c:=by obtain J|J:=J;obtain⟨_,_,c,b,f,G,V⟩:=a.9 I J;grind;obtain⟨_,⟨G,_⟩|⟨E,g,h,G,_,T,_⟩⟩:=a.5;rw[G]at J;cases J;have Z:=J;rw[G]at Z;(obtain rfl:E=I:=by simpa[Value.ownBlock] using Z);exact⟨_,_,_,T,a.6 E _ J T⟩
def Aof(E:Dt L v cb U r e d p ob K M W)(n D)(h:∀g,d.ownBlock=je g->sh D (U8 ob)=sh n g):A2 n d=A2 D (Jy (U8 ob) d):=by obtain⟨_,⟨rfl,_⟩|⟨g,a,H,rfl,_⟩⟩:=E.5;simp[Jy];simp[Jy,Ew,h g T]
def Amy(n D k)(h:∀X,ob=je X->sh D 14=sh n X):A2 n (Ke ob K k M)=A2 D (Jy 14 (Ke ob K k M)):=by cases ob with|none=>simp[Ke,Jy]|some X=>simp[Ke,Jy,Ew,h X T]
variable {a:p8}
def Abj(E:Dt L v cb U r e d p ob K M W)(F:Fz v cb U a st u){n n' o g}(s:Dp P n L o g u w)(A:∀g,d.ownBlock=je g->sh n' (U8 ob)=sh n g)(Z:(J7 v.1.size cb ob d.ownBlock)[i]?=je x):∃I,w.1[sh n x]?=je I/\LikeO n' (XG U) i (X8 u v.1.size cb U r e (Jy (U8 ob) d) x) I:=by have k:=aS Z;have H:=E.cbN;rw[X8];by_cases f:x=cb;rw[aL f];subst f;have V:i=8:=idx_eq (Tb E) Z iW;subst V;(have b:e≠#[]:=λc=>by have:=E.3;grind);refine⟨_,s.row (F.K.get E.2 λh=>h) b E.jn.cb,qx (zk ⟨_,_,_,_,iW,iW,by simp[Tu],λj l=>?_⟩)⟩;have D:j=U∨j=U+1:=cX λz=>l (zk ⟨j,iW,λc=>z (zk c),λc=>z (qx c)⟩);obtain rfl|rfl:=D;rw[(N3 E _).1,aM,E.3,aI,aI,Aof E n n' A];rw[(N3 E _).2,aM,E.4];simp;rw[aO f];by_cases J:x=iZ v.1+2;rw[aL J];subst J;obtain⟨I,C,T⟩:=(s.1 0).4 _ _ F.5;refine⟨I,C,?_⟩;obtain T|⟨_,_,_,_,T,_⟩|⟨T,_⟩|⟨_,_,_,T,_⟩:=T;rw[T];exact zk (by simp[Dr]);cases T;exact(E.jn.1 _ T.1).elim;cases T;rw[aO J];obtain⟨G,c,y,Y⟩:=We E F k J;obtain⟨I,C,T⟩:=(s.1 0).4 _ _ Y;refine⟨I,C,?_⟩;rw[Y];simp[bT];split;obtain⟨B,rfl⟩:=N9 T;exact qx (qx (qx ⟨B,c,y,iW,iW⟩));rename_i t;obtain⟨Q,S,R,q,m⟩:=Ru E (AY E k t f);rw[F.K.get q λh=>h]at Y;cases Y;by_cases b:G=#[];subst b;obtain⟨B,rfl⟩:=N9 T;exact qx (qx (qx ⟨B,c,y,iW,iW⟩));have:=Go.Pair.LikeO.row T b ((AY E k t f).elim (λh=>E.jn.ob h) λh=>E.jn.pg h);rw[this,m.map n];exact zk (by simp[Dr];rw[m.map n'])
end
section
variable {H:Fh} {cb:Nat} {e:iJ} {p:iE} {ob:iN} {a:p8}
def Aq3(t:F){g}(h:t.ownBlock=je g):U8 ob<14+iY ob.toList+iY t.ownBlock.toList:=by rw[h];simp[U8]
def Aoe(E:Dt L v cb U r e d p ob K M W){a}(b:14+iY ob.toList+iY d.ownBlock.toList<=a):A2 (.up a) (Jy (U8 ob) d)=Jy (U8 ob) d:=by obtain⟨_,⟨rfl,_⟩|⟨g,c,H,rfl,_⟩⟩:=E.5;simp[Jy];have:=Aq3 (ob:=ob) (xh (je (iQ g)) (iY p) c) T;simp[Jy,Ew,I7 (aB this b)]
def Amx{a}(k)(b:14+iY ob.toList<=a):A2 (.up a) (Jy 14 (Ke ob K k M))=Jy 14 (Ke ob K k M):=by cases ob with|none=>simp[Ke,Jy]|some X=>(have:14<a:=by simp at b;omega);simp[Ke,Jy,Ew,I7 this]
def Akc(E:Dt L v cb U r e d p ob K M W)(F:Fz v cb U a st u){o}(h:(Ja u v.1.size cb U r e ob d).1[i]?=je o):LikeO (.up (Ja u v.1.size cb U r e ob d).1.size) (XG U) i o o:=by
 obtain⟨x,Z,rfl⟩:=Wh h;have k:=aS Z;rw[Mq];apply zk;rw[X8];split;simp[Dr];congr 1;refine bZ λj=>?_;rw[aM];have n:∀y,(Is e U (Jy (U8 ob) d))[j]?=je y->A2 (.up (14+iY ob.toList+iY d.ownBlock.toList)) y=y:=λy b=>by rw[Is,cF]at b;split at b;split at b;cases b;simp;cases b;rw[cF]at b;split at b;split at b;cases b;exact Aoe E (aA _);cases b;rw[Array.getElem?_replicate]at b;split at b;cases b;exact E7 _;cases b
 cases l:(Is e U (Jy (U8 ob) d))[j]? with|none=>rfl|some y=>rw[aI,n y l]
 rename_i f;split;simp[Dr];rename_i J;obtain⟨c,g,s,Y⟩:=We E F k J;rw[Y];simp[bT];split;simp[Uk,Dr];rename_i t;obtain⟨Q,S,R,q,m⟩:=Ru E (AY E k t f);rw[F.K.get q λh=>h]at Y;cases Y;simp[Dr];rw[m.map]
def QZ(n W B J Y N D U T):Bt n (KY W B J Y N D U T)=KY (sh n W) (sh n B) (sh n J) (sh n Y) (sh n N) (sh n D) U (A2 n T):=by
 rw[KY,E6,Hv,EF];simp only[bF,cM,YY];have S:Bp n (UK (T62 W B J Y N D U T) W N)=UK (T62 (sh n W) (sh n B) (sh n J) (sh n Y) (sh n N) (sh n D) U (A2 n T)) (sh n W) (sh n N):=by rw[UK,Hv,JH];congr 2;simp[T62,Ew,E7]
 rw[S];have L:(Dl (A2 n (J1 D U)) (A2 n T) (A2 n (.chan (je N))) (A2 n re) λi=>A2 n re)=Dl (J1 (sh n D) U) (A2 n T) (.chan (je (sh n N))) re λ_=>re:=by simp[J1,Ew,E7]
 rw[L];rfl
def Apx(E:Dt L v cb U r e d p ob K M W)(F:Fz v cb U a st u):Wk (XG U) (· = 8) (Ja u v.1.size cb U r e ob d) (d.ownBlock.map λ_=>U8 ob) 8 U (if ob=zt then 13 else 14) iV (Ja u v.1.size cb U r e ob d) (Jy (U8 ob) d) vy p/\Src (· = 8) (Ja u v.1.size cb U r e ob d) (if ob=zt then 13 else 14) (Jy 14 (Ke ob K (iY W) M)) W:=by
 have hcut:(Ja u v.1.size cb U r e ob d).1[8]?=je (pf (Is e U (Jy (U8 ob) d)) r):=by rw[MA (x:=cb) iW];simp[X8]
 have z:(Ja u v.1.size cb U r e ob d).1[10]?=je (.chan 0 #[] vy 0 0 vy):=by rw[MA (x:=iZ v.1+2) iW,X8,aO (by have:=E.cbN;omega),aL iW]
 have P:∀i x(f:iJ)b(w:Nat×Nat),(J7 v.1.size cb ob d.ownBlock)[i]?=je x->(ob=je x∨d.ownBlock=je x)->v.1[x]?=je (pf f b w)->(Ja u v.1.size cb U r e ob d).1[i]?=je (pf f b w):=λi x f b w C J T=>by rw[MA C];(have n:8<=x/\x≠cb/\x<iZ v.1:=by obtain J|J:=J;exact⟨(E.9 x J).1,(E.9 x J).2.1,E.bbN J⟩;exact⟨(E.8 x J).1,(E.8 x J).2.1,E.pgN J⟩);rw[X8,aO n.2.1,aO Aa,aO Aa,F.K.get T λh=>h];rfl
 have B:(Ja u v.1.size cb U r e ob d).ownsRow 0 5 1 (Jy (U8 ob) d) (iY p) (A4 p):=by obtain⟨k,⟨h,C⟩|⟨g,m,H,h,J,T,q,o,t,y⟩⟩:=E.5;rw[h];exact⟨k,zk ⟨iW,C⟩⟩;exact⟨k,qx ⟨U8 ob,m,H,Adm,bB _,P _ g _ _ _ (LY Adm) (qx Adm) T,q,o,t,y⟩⟩
 have s:∀g,(Jy (U8 ob) d).ownBlock=je g->g=U8 ob/\∃I,d.ownBlock=je I:=λg G=>by obtain⟨_,⟨h,_⟩|⟨I,m,H,h,_⟩⟩:=E.5;rw[h]at G;cases G;rw[h]at G;exact⟨by simpa[Jy,Value.ownBlock,eq_comm] using G,I,Adm⟩
 have A:VW (XG U) (· = 8) (Ja u v.1.size cb U r e ob d):=by refine⟨λi V=>by subst V;exact⟨_,_,_,hcut⟩,λa6 N=>?_,λa7 Y=>?_,λa8 O=>?_⟩;obtain⟨j,b,_⟩|b:=N;cases b;rfl;cases b;obtain⟨j,b,_⟩|b:=Y;cases b;cases b;exact⟨_,z,iW⟩;obtain⟨j,b,_⟩|b:=O<;>cases b
 have aa:14<=U8 ob:=by rw[U8];omega
 have Z:∀I,d.ownBlock=je I->U8 ob≠(if ob=zt then 13 else 14):=λI _=>by cases ob with|none=>simp[U8]|some X=>simp[U8]
 refine⟨⟨⟨A,iW,?_,?_,cellOf (j:=U) hcut (N3 E _).1,cellOf (j:=U+1) hcut (N3 E _).2,Ej hcut,Ej hcut,B,λg G b=>?_,λg cc G h=>?_⟩,.refl _ _,λg G=>?_,λ_ h=>h.elim,?_⟩,⟨?_,?_⟩⟩;rintro(⟨j,b,C,J⟩|b);cases b;exact C iW;cases b;rintro(⟨j,b,C,J⟩|b);cases b;exact J iW;cases b;have:=(s g G).1;omega;obtain⟨rfl,I,l⟩:=s g G;obtain⟨ab,ad,ae,Q,R⟩:=Ru E (qx l);rw[P _ I _ _ _ (LY l) (qx l) Q]at h;cases h;exact R;obtain⟨rfl,I,l⟩:=s g G;exact⟨zk (by rw[l];rfl),Z I l,λh=>h⟩;split<;>omega;split<;>omega;have S:Jy 14 (Ke ob K (iY W) M)=xh (ob.map λ_=>⟨14,K,zt⟩) (iY W) M:=by cases ob<;>rfl
 refine⟨_,_,S,E.10,λD=>?_⟩;obtain⟨X,c,a1⟩:=E.11 D;refine⟨K,by rw[c];rfl,?_⟩;rw[c,aO Ae];obtain⟨_,_,f,b,w,Y,_⟩:=E.9 X c;rw[←c];intro i V;have C:=a1 i V;rw[Cm Y]at C;rwa[Cm (P 14 X f b w (LX c) (zk c) Y)]
end
@[reducible] def LE(n:Ren)(N:Nat)(In Shun:iH)(k:Nat):Nt:=
 {Shun,k,Wg:=sh n (N+4),Ch:=sh n (N+2),Ro:=λl=>(∃a,l=.cell a/\(a.block=sh n N∨a.block=sh n (N+1)∨a.block=sh n (N+3)))∨In l }
def KBE(u0:qi)(co:Nat)(n':Ren)(l:Loc):Prop:=∃q,Jf u0 q/\¬XG co q/\l=Ha n' q
def JAE(cb co N:Nat)(l:Loc):Prop:=l=.cell (iR cb co)∨l=.cell ⟨cb,co+1,zt⟩∨l=.obj (N+2)
def GM(J0:iH)(cb co N:Nat):Loc->Prop:=JOr (JAE cb co N) J0
def Lz(N:Nat)(ob pg:iN)(i:Nat):Prop:=i=N∨i=N+1∨i=N+3∨i=N+4∨ob=je i∨pg=je i
def yR(cb co N:Nat)(bsl clo:F)(i:Nat):F:=if i=17 then .chan (je (N+2)) else yE cb co N bsl clo (gq #[]) (Q6 N) i
section
variable {H:Fh} {cb:Nat} {e:iJ} {p:iE} {ob:iN} {a:p8} {n:Ren} {y:iH} {m:gy}
def U3(E:Dt L v cb U r e d p ob K M W)(n):((J7 v.1.size cb ob d.ownBlock).map (sh n)).Nodup:=List.Pairwise.map _ (λb c h a=>h (Hk a)) (Tb E)
def LW(E:Dt L v cb U r e d p ob K M W)(F:Fz v cb U a st u){b}(s:Dp ow n L b m u h):∀x∈(J7 v.1.size cb ob d.ownBlock).map (sh n),x<iZ h.1:=λx Z=>by obtain⟨y,c,rfl⟩:=aZ.1 Z;exact(s.1 0).2 y (F.2▸Anu E c)
def nB(E:Dt L v cb U r e d p ob K M W)(F:Fz v cb U a st u){Own}(hs:Dp Z n L Own m u h):Ren:=Ren.ofList ((J7 v.1.size cb ob d.ownBlock).map (sh n)) h.1.size (U3 E n) (LW E F hs)
def Pe(E:Dt L v cb U r e d p ob K M W)(F:Fz v cb U a st u){b}(s:Dp Z n L b m u h)(c:(J7 v.1.size cb ob d.ownBlock)[i]?=je x):sh (nB E F s) i=sh n x:=X9 Aj
def Aem(E:Dt L v cb U r e d p ob K M W)(F:Fz v cb U a st u){b}(s:Dp Z n L b m u h):Bt (nB E F s) (KY 9 13 11 12 10 8 U (Jy 14 (Ke ob K (iY W) M)))=KY (sh n (iZ v.1+4)) (sh n (iZ v.1+3)) (sh n v.1.size) (sh n (iZ v.1+1)) (sh n (iZ v.1+2)) (sh n cb) U (A2 n (Ke ob K (iY W) M)):=by rw[QZ,Pe E F s T,Pe E F s T,Pe E F s T,Pe E F s T,Pe E F s T,Pe E F s T,←Amy n _ (iY W) λX c=>Pe E F s (LX c)]
def ZA(E:Dt L v cb U r e d p ob K M W)(F:Fz v cb U a st u){q}(h:Jf (Ja u v.1.size cb U r e ob d) q)(l:¬XG U q):∃i x j,q=.cell (iR i j)/\(J7 v.1.size cb ob d.ownBlock)[i]?=je x/\Jf u (.cell (iR x j))/\((x=cb/\(j=U∨j=U+1))∨ob=je x∨d.ownBlock=je x)/\x<iZ v.1:=by cases q with|cell w=>(obtain⟨y,f⟩:=h;obtain⟨i,j,k⟩:=w;cases k with|some s=>(exfalso;rw[yg]at f;cases m:(Ja u v.1.size cb U r e ob d).1[i]? with|none=>simp[m]at f|some A=>grind)|none=>have X:=Lb f;have b:(Ja u v.1.size cb U r e ob d).1[i]?=je (Ja u v.1.size cb U r e ob d).1[i]:=aN X;obtain⟨x,Z,O⟩:=Wh b;have t:=aS Z;rw[O,X8]at b;by_cases g:x=cb;rw[aL g]at b;subst g;have V:i=8:=idx_eq (Tb E) Z T;subst V;rw[Cm b]at f;have Y:=(aJ.1 f).1;rw[Tu]at Y;refine⟨8,x,j,T,Z,⟨e[j],?_⟩,zk ⟨T,(cX λz=>l (zk ⟨j,T,λc=>z (zk c),λc=>z (qx c)⟩))⟩,E.cbN⟩;rw[Cm (F.K.get E.2 λh=>h)];exact aN Y;rw[aO g]at b;by_cases J:x=iZ v.1+2;rw[aL J]at b;rw[yg]at f;simp[b]at f;rw[aO J]at b;obtain⟨B,c,n,o⟩:=We E F t J;rw[o]at b;simp[bT]at b;split at b;simp[Uk]at b;rw[Cm b]at f;simp at f;rename_i I;rw[Cm b]at f;exact⟨i,x,j,T,Z,⟨y,by rwa[Cm o]⟩,qx (AY E t I g),Aa⟩)|obj C=>exfalso;obtain⟨A,O,S⟩:=h;obtain⟨x,Z,rfl⟩:=Wh O;by_cases J:x=iZ v.1+2;subst J;have:C=10:=idx_eq (Tb E) Z T;subst this;exact l (qx T);obtain⟨B,c,n,o⟩:=We E F (aS Z) J;rw[X8,aO J,o]at S;split at S;exact S _ _ _ T;split at S;exact S _ _ _ T;exact S _ _ _ T|_=>exact h.elim
def Nq{p}(s:Dp Z n L (H.Own p) m u h){l}(a:Jf u l)(b:¬L l):=(s.own l a b).1
def Af3{J d g}(s:Dp ow n J d g u w)(E:H.Kept w){c:iJ}{e m}(Y:u.1[i]?=je (pf c e m))(M:c≠#[])(p:∀j,¬J (.cell (iR i j)))(t:∀j<c.size,¬H.In (.cell ⟨sh n i,j,zt⟩)){l}(K:Nx (sh n i) l):¬H.In l:=λV=>by have W:=s.row Y M p;cases l with|cell a=>(obtain⟨x,Z⟩:=H.4 a V;have D:a.1=sh n i:=K;rw[←E.1 a V]at Z;obtain⟨b,j,k⟩:=a;simp only at D;subst D;rw[yg,W]at Z;cases k with|some q=>simp at Z|none=>grind)|obj r=>obtain⟨o,O,z⟩:=H.5 r V;have f:=E.3 r o V O z;rw[K,W]at f;exact z _ _ _ (aC f).symm|_=>exact K.elim
def Aos(E:Dt L v cb U r e d p ob K M W)(F:Fz v cb U a st u)(s:Dp ow n L (H.Own y) m u h):Dp ow (nB E F s) (XG U) ((LE n v.1.size H.In y k).B (KBE (Ja u v.1.size cb U r e ob d) U (nB E F s))) (KY 9 13 11 12 10 8 U (Jy 14 (Ke ob K (iY W) M))) (Ja u v.1.size cb U r e ob d) h:=by
 have C:(Ja u v.1.size cb U r e ob d).1.size=14+iY ob.toList+iY d.ownBlock.toList:=Mq;refine Dp.ofList (U3 E n) (LW E F s) (by rw[C,bR,AX]) (s.1 0).5 (s.1 0).6 (s.1 0).7 (s.1 0).8 (λg D t V O=>?_) (λg V=>?_) ⟨λg t O=>Akc E F O,?_⟩ λI j l=>?_;obtain⟨x,Z,rfl⟩:=Wh O;rw[aV,Z]at V;obtain rfl:=aC V;exact Abj E F s (n':=nB E F s) (λm G=>Pe E F s (LY G)) Z;have c:(J7 v.1.size cb ob d.ownBlock)[g]?=je g:=by match g,V with|0,_|1,_|2,_|3,_|4,_|5,_|6,_|7,_=>rfl
 rw[aV,c,aI,show sh n g=g from s.2 g V];rw[C,QZ,I7 Aa,I7 Aa,I7 Aa,I7 Aa,I7 Aa,I7 Aa,Amx _ Aa];obtain⟨g,x,f,rfl,Z,P,i,A⟩:=ZA E F j l;have o:Ha (nB E F s) (.cell (iR g f))=.cell ⟨sh n x,f,zt⟩:=by simp[Ha,Ew,Pe E F s Z]
 refine⟨⟨_,j,l,T⟩,?_⟩;show _/\_;have w:Ha (Ren.ofList ((J7 v.1.size cb ob d.ownBlock).map (sh n)) h.1.size (U3 E n) (LW E F s)) (.cell (iR g f))=.cell ⟨sh n x,f,zt⟩:=o;rw[w];have q:¬L (.cell (iR x f)):=by obtain⟨rfl,_⟩|i|i:=i;exact E.jn.cb f;exact E.jn.ob i f;exact E.jn.pg i f
 refine⟨?_,?_,Ae,(Nq (l:=.cell (iR x f)) s P q)⟩;rintro(⟨z,c,b⟩|b);cases c;obtain b|b|b:=b<;>(have J:=Hk b;omega);exact(s.5 (.cell (iR x f)) P q).2 b;rintro⟨z,c,B⟩;cases c;have:=Hk B;omega
def Aor(E:Dt L v cb U r e d p ob K M W)(F:Fz v cb U a st u)(s:Dp ow n L (H.Own y) m u h){R}(G:Bt (.up u.1.size) R=R):Dp ow n (GM L cb U v.1.size) ((LE n v.1.size H.In y k).A (KBE (Ja u v.1.size cb U r e ob d) U (nB E F s))) R (Bb (Lz v.1.size ob d.ownBlock) u) h:=by
 have C:Dp ow n (GM L cb U v.1.size) (λl=>H.Own y l/\l≠.cell ⟨sh n cb,U,zt⟩/\l≠.cell ⟨sh n cb,U+1,zt⟩/\l≠.obj (sh n (iZ v.1+2))) R u h:=by refine s.less (λl b=>qx b) G λl B i O=>⟨O,λc=>i (zk (zk ?_)),λc=>i (zk (qx (zk ?_))),λc=>i (zk (qx (qx ?_)))⟩;exact Dto;exact Dto;cases l with|obj D=>simp[Ha,Loc.obj.injEq]at c;rw[Hk c]|_=>simp[Ha]at c
 refine C.hide (λg V=>?_) G λl O z=>⟨?_,?_,?_,O.2.2.2,O.1.1⟩;obtain rfl|rfl|rfl|rfl|V|V:=V;exact⟨_,_,_,F.3⟩;exact⟨_,_,_,F.4⟩;exact⟨_,_,_,F.6⟩;exact⟨_,_,_,F.7⟩;obtain⟨t,c,w,b,_⟩:=Ru E (zk V);exact⟨t,c,w,F.K.get b λb=>b⟩;obtain⟨t,c,w,b,_⟩:=Ru E (qx V);exact⟨t,c,w,F.K.get b λb=>b⟩;rintro⟨I,A,i,rfl⟩;obtain⟨g,x,f,rfl,Z,P,j,J⟩:=ZA E F A i;have o:Ha (nB E F s) (.cell (iR g f))=.cell ⟨sh n x,f,zt⟩:=by simp[Ha,Ew,Pe E F s Z]
 rw[o]at O z;obtain⟨rfl,rfl|rfl⟩|j|j:=j;exact O.2.1 T;exact O.2.2.1 T;exact z x (qx (qx (qx (qx (zk j))))) T;exact z x (qx (qx (qx (qx (qx j))))) T;rintro(⟨q,rfl,b|b|b⟩|b);exact z _ (zk T) b;exact z _ (qx (zk T)) b;exact z _ (qx (qx (zk T))) b;exact O.1.2 b;rintro⟨q,rfl,c⟩;exact z _ (qx (qx (qx (zk T)))) c
end
end Go.Proofs.Y

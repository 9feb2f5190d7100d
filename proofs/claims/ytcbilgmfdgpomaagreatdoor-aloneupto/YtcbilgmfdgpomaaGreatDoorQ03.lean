import Derived.Test.YtcbilgmfdgpomaaGreatDoorQ02
set_option linter.all false
open Go renaming World → gk,Frame → qq,Value → uo,FuncId → x8,Program → im,Goroutine → vr,stepG → o1,undef → qp,Oper → ox,yielded → iu,Item → pf,Next → r8,callFunc → zo,TypeInfo → me,unwind → lf,Code → sf,Event → oy,Exit → uf,wanted_put → va,lone → o9,TypeId → q9,invoke → lx,World → y,Frame → N
open Option renaming some → lj,none → jh,elim → ll
open Bool renaming true → km,false → sd
open Go.stepG renaming exec → o8
open Go.Frame renaming enter → w8,catches → xp,eval_at → xg,finish → od
open Go.Sem renaming run → ux,runT_eq → sr,events → mf,runT → yw
open Go.World renaming cell? → ur
open Go.Question renaming extern → jg,forced → ql,cut → y9
open Array renaming replicate → jj,size → iL
open Go.CallKind renaming early → ri
open Go.GStep renaming after → rq
open Go.Goroutine.mk renaming injEq → ve
open Go.Stepped.next renaming injEq → qz
open Go.Deferred renaming ofValue → k9
open Pure renaming pure → wy
open Go.Obj.cells renaming injEq → lu
open Go.Instr renaming enterLoop → vo,getLoop → o7,takeDeferred → ly
open List renaming map → oo,range → yo,length → iK
open Go.Act renaming put_comm → my
open Go.Pair renaming Ren → Z,Plain → r,LikeO → E
variable {B O U e v w:y}{Bs:gV}{F Stop:vr->y->Prop}{I:gX}{L:List x8}{M b i j t:Nat}{R g' h:vr}{S:x8→Bool}{T cs z:List N}{W:x8→Prop}{X fr:N}{Y:iA}{a:Type}{c:sf}{f fn u:x8}{k:List pf}{l:hZ}{main:Bool}{o:ox}{x:uo}
def Udb{p:Prop}(h:p:=by
 cases y<;>first|rfl|exact absurd (.inl ⟨_,iI⟩) Z|exact absurd (.inr ⟨_,iI⟩) Z):p:=h
def Jrj{p:Prop}(h:p:=by
 simp only[runN,Stepped.next.injEq]at Y;rw[←(Qb Y).1];exact⟨_,iI⟩):p:=h
def Ns6{p:Prop}(h:p:=by
 rw[Bz]at O;obtain⟨x,Z,rfl⟩:=bB.1 O;have:=Q i x Z;split
 ·cases x<;>first|trivial|exact this
 ·exact this):p:=h
def E90{p:Prop}(h:p:=by
 refine⟨I,G,.inr (.inr (.inr ?_))⟩;rcases K with rfl|⟨Q,B,S,R,a,rfl,_⟩|⟨_,z,_⟩|⟨B,S,R,a,rfl⟩
 ·exact⟨_,_,_,iI,iI⟩
 ·grind
 ·exact absurd iI (z _ _ _)
 grind):p:=h
def Kaq{p:Prop}(h:p:=by
 simp only[bM,fM,aT]at h;obtain⟨_,_,rfl⟩:=h;exact N6 Ad):p:=h
def Wwv{p:Prop}(h:p:=by
 obtain⟨j,_,Y⟩:=Y;by_cases d:k.bytes=0
 ·simp only[d,bQ]at Y;exact u Y (b _)
 ·simp only[d,bR]at Y;exact u Y (b _)):p:=h
def E3f{p:Prop}(h:p:=by
 simp only[dY,bM,fM,aT]at h;obtain⟨_,_,_,_,rfl⟩:=h;exact N6 Ad):p:=h
def C0b{p:Prop}(h:p:=by
 have e:(Bw n a).tmps=a.tmps.map (Az n):=iI
 rwa[e,E1]):p:=h
def Ote{p:Prop}(h:p:=by
 refine⟨B,Kz n y,(execOp a.eval o).events P v #[],C,?_,T,by rwa[←g],λe h=>⟨k e h,N e h⟩,λe h=>by rwa[←g]⟩;rcases Z with rfl|⟨rfl,rfl⟩
 ·exact .inl iI
 ·exact .inr ⟨iI,iI⟩):p:=h
def Rq7{p:Prop}(h:p:=by
 have M:∀e∈listed P b.fn (Bw n a) o W,e∈L.map (Ky n):=λe N=>r e (mem_seen N);rcases h with rfl|⟨rfl,rfl⟩
 ·refine⟨f,_,L,?_,T,q,c,M⟩;have:=stepG_value (P:=P) (main:=main) (b:=b) (a:=Bw n a) (rest:=l) (k:=k.map (Df n)) (cs:=z.map (Bj n)) (w:=W) O B K C
  rwa[Nt]at this
 ·refine⟨f,_,L,?_,T,q,c,M⟩;have:=Sa (P:=P) (main:=main) (b:=b) (a:=Bw n a) (rest:=l) (k:=k.map (Df n)) (cs:=z.map (Bj n)) (w:=W) O B K C;have e:=Nt n a o.dst undef;rw[Eu]at e
  rwa[e]at this):p:=h
namespace Go.Pair
variable {K:Act->y->Prop}{Q:uf->Act->y->Prop}{m n q:Z}{s:Sem r8}
open Go Go.Conc
def Df(n:Z):pf->pf
 |.inRangeFunc l=>.inRangeFunc (sh n l)
 |.endRangeFunc l=>.endRangeFunc (sh n l)
 |.call d w r s=>.call (O5 n d) w r (s.map (Az n))
 |.extern row args=>.extern row (args.map (Az n))
 |i=>i
def Jx(n:Z):FrameMode->FrameMode
 |.panicking c=>.panicking (c.map λx=>{ x with v:=Az n x.v })
 |m=>m
def Bj(n:Z)(fr:N):N:={ fr with tmps:=fr.tmps.map (Az n),todo:=fr.todo.map (Df n),defers:=fr.defers.map (O5 n),mode:=Jx n fr.mode,roundOf:=fr.7.map (sh n) }
def Bn(n:Z)(g:vr):vr:={ g with frame:=Bj n g.frame,callers:=g.callers.map (Bj n) }
def Ep(n X cs):Bn n (G X cs)=G (Bj n X) (cs.map (Bj n)):=iI
section
variable {P:im}
def Co(h:X.mode=.run):(Bj n X).mode=.run:=by simp[Bj,h,Jx]
def IQ(h:X.mode=.returning):(Bj n X).mode=.returning:=by simp[Bj,h,Jx]
def Hn(a:gY)(d v):(a.map (Az n)).setIfInBounds d (Az n v)=(a.setIfInBounds d v).map (Az n):=(Array.map_setIfInBounds ..).symm
def Mg(X v):(Bj n X).finish (Az n v)=Bj n (X.finish v):=by
 have ⟨u,a,b,c,f,kind,Y⟩:=X;unfold od Bj;cases b with
 |nil=>rfl
 |cons x k=>
  cases x with
  |inRegion g l=>
   cases l with
   |nil=>rfl
   |cons i l=>
    simp only[bC,Df];cases(g[i]?).bind _ with
    |none=>rfl
    |some d=>simp only[Hn]
  |call d w r s=>simp[Df]
  |extern r e=>simp[Df]
  |_=>rfl
def Ov(X):(Bj n X).finish qp=Bj n (X.finish qp):=by
 have:=Mg (n:=n) X qp
 rwa[Eu]at this
def E1(g)(a:gY):iu g (a.map (Az n))=iu g a:=by
 funext j
 unfold iu;cases(g[j]?).bind _ with
 |none=>rfl
 |some d=>
  simp only[eM,aN];cases a[d]? with
  |none=>rfl
  |some v=>cases v<;>simp
def Oq(a):∀k:List pf,exitTo a (k.map (Df n))=(exitTo a k).map (oo (Df n))
 |[]=>rfl
 |x::k=>by
  cases x with
  |inBlock i=>
   simp only[bC,Df,exitTo];split
   ·rfl
   ·exact Oq a k
  |_=>exact Oq a k
def Su(l):∀k:List pf,gotoIn l (k.map (Df n))=(gotoIn l k).map (oo (Df n))
 |[]=>rfl
 |x::k=>by
  cases x with
  |inScope b=>
   simp only[bC,Df,gotoIn];cases findLabel b l with
   |none=>exact Su l k
   |some r=>rfl
  |_=>exact Su l k
def J9(f)(a:gY)(W):w8 P f (a.map (Az n)) W=Bj n (w8 P f a W):=by
 unfold w8;cases P.funcs[f]? with
 |none=>simp[Bj,Jx,Df]
 |some u=>
  cases D:u.body with
  |none=>simp[Bj,Jx,Df,Eu,D]
  |some c=>simp[Bj,Jx,Df,Eu,D]
end
structure Ha(P main J g v)(g':vr)(v'):Prop where
 run:g'.status=.running
 plain:Plain v'
 frame:∃es,Dd v v' es/\∀e∈es,Hk v' e/\Ff J e
 all:∀n(t:Nat)w,n.Fix P.globals.size->iL v'.1<=t->Sm n t J v w->∃(w':gk)(es fs:Array oy),o1 P main (Bn n g) w=.go (Bn n g') w' es/\Sm n t J v' w'/\Dd w w' (fs.map (Ky n))/\(∀e∈fs,Hk v' e/\Ff J e)/\∀e∈es,e∈fs.map (Ky n)
section
variable {P:im} {k:Bool} {J:gW}
def FL{g}(Y:R.status=.running)(Q:r v)(h:∀n(w:y),n.Fix P.globals.size->o1 P k (Bn n g) w=.go (Bn n R) w):Ha P k J g v R v:=
 ⟨Y,Q,⟨#[],.refl _ _,Ad⟩,λn t w p a s=>⟨w,#[],#[],h n w p,s,.refl _ _,Ad,Ad⟩⟩
def BC{g}(Y:R.status=.running)(Q:r v)(h:∀n(w:y),n.Fix P.globals.size->w.tape=v.tape->w.drawn=v.drawn->o1 P k (Bn n g) w=.go (Bn n R) { w with drawn:=w.drawn+1 }):Ha P k J g v R { v with drawn:=v.drawn+1 }:=
 ⟨Y,Q,⟨#[],Ow _ _,Ad⟩,λn t w p a s=>⟨_,#[],#[],h n w p s.tape s.drawn,s.drew,(Ow w _).mono Ad,Ad,Ad⟩⟩
def Be(L:X.mode=.run):o1 P k (G X cs) w=o8 P k km X cs jh w:=by
 unfold o1 G;simp only[L]
def Uq(P:im)(fr:N)(cs:List N):r8->vr
 |.value x=>G (fr.finish x) cs
 |.enter f args=>G (w8 P f args .normal) (fr::cs)
 |_=>G (fr.finish qp) cs
def known:r8->Prop
 |.value _=>True
 |.skip=>True
 |.enter _ _=>True
 |_=>False
def YG(n X cs){x}(h:known x):Uq P (Bj n X) (cs.map (Bj n)) (Kz n x)=Bn n (Uq P X cs x):=by
 cases x<;>first|exact h.elim|skip
 ·show G _ _=_;rw[Mg];rfl
 ·show G _ _=_;rw[Ov];rfl
 ·show G _ _=_;rw[J9];rfl
def YH(X cs x):(Uq P X cs x).status=.running:=by cases x<;>rfl
def Qs{fr x}(M:(fr.kind==ri)=sd)(I:∃g l a,fr.todo=.inRegion g l::a)(V:o1 P k (G fr cs) w=stepG.apply P km fr cs jh s w)(C:s.run P w=.ok x B)(Z:known x):o1 P k (G fr cs) w=.go (Uq P fr cs x) B (seen P fr.fn (s.events P w #[])):=by
 have ⟨o,b,c,I⟩:=I;rw[V];cases x<;>first|exact Z.elim|skip
 all_goals
  simp only[stepG.apply,sr,C,bQ,M,I];simp[rq,G,Uq]
def Afk{t:Ren->Sem r8}{x}(E:(fr.kind==ri)=sd)(I:∃c l d,fr.todo=.inRegion c l::d)(Q:Plain v)(Z:known x)(V:∀n(w:gk),n.Fix P.globals.size->o1 P k (G (Bj n fr) (cs.map (Bj n))) w=stepG.apply P km (Bj n fr) (cs.map (Bj n)) jh (t n) w)(b:∀n:Ren,n.Fix P.globals.size->Rf P n (Kz n) s (t n))(f:∃n:Ren,n.Fix P.globals.size)(Y:s.run P v=.ok x U)(W:∀e∈s.events P v #[],Ff J e):Ha P k J (G fr cs) v (Uq P fr cs x) U:=by
 have ⟨j,F⟩:=f;have ⟨i,h,a⟩:=(b j F).mono v x U Q Y;refine⟨YH _ _ _,i,⟨_,h,λe N=>⟨a e N,W e N⟩⟩,λn u w p R m=>?_⟩;have ⟨B,C,g,T,y⟩:=(b n p).sim J u v w m Q W x U Y R;have ⟨o,q,r,I⟩:=I;refine⟨B,seen P fr.fn ((t n).events P w #[]),s.events P v #[],?_,T,by rwa[←g],λe N=>⟨a e N,W e N⟩,λe N=>?_⟩
 ·have:=Qs (fr:=Bj n fr) E ⟨o,q,r.map (Df n),by simp[Bj,I,Df]⟩ (V n w p) C (by cases x<;>exact Z);rw[Ep,this,YG n fr cs Z]
  rfl
 ·rw[←g];exact mem_seen N
end
structure Env where
 fn:x8->Prop
 reg:x8->Array uo->Prop
instance:CoeFun Env λ_=>x8->Prop:=⟨Env.fn⟩
def OkN(P:im)(S:Env):r8->Prop
 |.value _=>True
 |.skip=>True
 |.enter f args=>S f/\S.reg f (w8 P f args .normal).tmps
 |_=>False
def He(dst:Option Tmp)(v:uo)(tmps:gY):Array uo:=match dst with|some d=>tmps.setIfInBounds d v|none=>tmps
structure Oi(P)(S:Env)(fn o):Prop where
 rf:∀n(fr:qq),n.Fix P.globals.size->S.reg fn fr.tmps->Rf P n (Kz n) (execOp fr.eval o) (execOp (Bj n fr).eval o)
 okn:∀(fr:qq) v x v',S.reg fn fr.tmps->Plain v->(execOp fr.eval o).run P v=.ok x v'->OkN P S x
 put:∀tmps v,S.reg fn tmps->(∀t,o.op=.move (.tmp t)->v=qp∨v=tmps.getD t qp)->S.reg fn (He o.dst v tmps)
def OV(P:im)(S:Env)(fn:x8):sf->Prop
 |.skip=>True
 |.region _ ops _=>∀(i:Nat)o,ops[i]?=lj o->Oi P S fn o
 |.seq a b=>OV P S fn a/\OV P S fn b
 |.cond c a b=>(Eh P.globals.size c=km/\OV P S fn a)/\OV P S fn b
 |.block _ b=>OV P S fn b
 |.loop b=>OV P S fn b
 |.rangeFunc _ _ _ _=>False
 |.exit _=>True
 |.scope b=>OV P S fn b
 |.label _=>True
 |.goto _=>True
 |.ret=>True
 |.refuse _=>False
def OW(P:im)(S:Env)(fn:x8):pf->Prop
 |.code c=>OV P S fn c
 |.inBlock _=>True
 |.inLoop b=>OV P S fn b
 |.inScope b=>OV P S fn b
 |.inRegion ops _=>∀(i:Nat)o,ops[i]?=lj o->Oi P S fn o
 |_=>False
structure Pg(P:im)(S)(fr:qq):Prop where
 defers:fr.defers = []
 kind:fr.kind=.normal
 round:fr.7=jh
 fn:∃f,P.funcs[fr.fn]?=lj f
 mode:fr.mode=.run∨fr.mode=.returning
 todo:fr.mode=.run->∀it∈fr.todo,OW P S fr.fn it
 reg:S.reg fr.fn fr.tmps
def JU(fr:N)(v:uo):Prop:=∀ops i rest k o t,fr.todo=.inRegion ops (i::rest)::k->ops[i]?=lj o->o.op=.move (.tmp t)->v=qp∨v=fr.tmps.getD t qp
def Xj(X):JU X qp:=λ_ _ _ _ _ _ _ _ _=>.inl iI
def FZ(P:im)(S:Env)(up:List N):Prop:=∀c∈up,Pg P S c/\c.mode=.run/\∀y,JU c y
def TS(P:im)(S:Env):Prop:=∀f,S f→∃fn c,P.funcs[f]? = lj fn∧(fn.name == "runtime.NumGoroutine")=sd∧fn.body=lj c∧OV P S f c
section
variable {P:im} {S:Env}
def AD(H:TS P S)(I:S f)(a:gY)(Y:S.reg f (w8 P f a .normal).tmps):Pg P S (w8 P f a .normal)/\(w8 P f a .normal).mode=.run:=by
 have ⟨u,c,C,_,J,T⟩:=H f I;refine⟨⟨iI,iI,iI,⟨u,C⟩,.inl iI,λ_ l V=>?_,Y⟩,iI⟩;simp[w8,C,J]at V;subst V;exact T
def Acl{P g}(d:X.todo=.inRegion g (i::l)::k)(O:g[i]?=lj o):(∀x w B,(execOp X.eval o).run P w=.ok (.value x) B->JU X x)/\∀f b w B,(execOp X.eval o).run P w=.ok (.enter f b) B->∀y,JU X y:=by
 have n:∀{a} {F} {V} {q} {I},X.todo=.inRegion a (F::V)::q->a[F]?=lj I->I=o:=λh e=>by
  grind
 refine⟨λx w B Y a F V q I t C J T=>?_,λf b w B Y y a F V q I t C J T=>?_⟩
 ·obtain rfl:=n C J;unfold execOp at Y;rw[T]at Y;simp[ux,pure]at Y;exact .inr Y.1.symm
 ·obtain rfl:=n C J;unfold execOp at Y;rw[T]at Y;simp[ux,pure]at Y
def Nr(h:Pg P S X)(L:X.mode=.run)(v)(q:JU X v):Pg P S (X.finish v)/\(X.finish v).mode=.run:=by
 have R:=h.todo L;unfold od;split
 ·rename_i g i a k E;rw[E]at R;refine⟨⟨h.defers,h.kind,h.round,h.fn,h.mode,λ_ e V=>?_,?_⟩,L⟩
  ·simp only[bH]at V;rcases V with rfl|V
   ·exact R (.inRegion g (i::a)) Ad
   grind
  ·cases O:g[i]? with
   |none=>simpa[O] using h.reg
   |some o=>
    have T:=((R (.inRegion g (i::a)) Ad) i o O).put X.tmps v h.reg λt N=>q g i a k o t E O N;simp only[ eM];cases y:o.dst with
    |none=>simpa only[He,y] using T
    |some d=>simpa only[He,y] using T
 ·rename_i l k E;rw[E]at R;exact(R (.inRangeFunc l) Ad).elim
 ·rename_i k E;rw[E]at R;exact(R .beginRound Ad).elim
 ·rename_i d b r s k E;rw[E]at R;exact(R (.call d b r s) Ad).elim
 ·rename_i r c k E;rw[E]at R;exact(R (.extern r c) Ad).elim
 ·exact⟨h,L⟩
def CM{l}:∀{c B},OV P S u c->findLabel c l=lj B->OV P S u B:=by
 intro c
 induction c with
 |seq a b I C=>
  intro B h e;simp only[findLabel]at e;cases d:findLabel a l with
  |some r=>rw[d]at e;obtain rfl:=aB e;exact⟨I h.1 d,h.2⟩
  |none=>rw[d]at e;exact C h.2 e
 |label V=>
  intro B h e;simp only[findLabel]at e;split at e
  ·obtain rfl:=aB e;trivial
  ·cases e
 |_=>intro B h e;simp[findLabel]at e
def Ads{l}:∀{k q},(∀a∈k,OW P S u a)->gotoIn l k=lj q->∀a∈q,OW P S u a:=by
 intro k
 induction k with
 |nil=>intro q _ e;simp[gotoIn]at e
 |cons x k O=>
  intro q h e;have E:∀a∈k,OW P S u a:=λa V=>h a (by simp[V]);cases x
  case inScope b=>
   simp only[gotoIn]at e;cases D:findLabel b l with
   |none=>grind
   |some r=>
    rw[D]at e;obtain rfl:=aB e;have o:OV P S u b:=h (.inScope b) Ad;intro a V;simp only[bH]at V;rcases V with rfl|rfl|V
    ·exact CM o D
    ·exact o
    ·exact E a V
  all_goals (simp only[gotoIn]at e;exact O E e)
def Adr{n}:∀{k q},(∀l∈k,OW P S u l)->exitTo n k=lj q->∀l∈q,OW P S u l:=by
 intro k
 induction k with
 |nil=>intro q _ e;simp[exitTo]at e
 |cons x k O=>
  intro q h e;cases x
  case inBlock b=>
   simp only[exitTo]at e
   grind
  all_goals (exact O (λl V=>h l (by simp[V])) e)
end
structure Twin(w v:gk):Prop where
 heap:v.1=w.1
 os:v.os=w.os
 output:v.output=w.output
def Twin.refl(w):Twin w w:=⟨iI,iI,iI⟩
def Ma(w v:y)(K:Nat):Prop:=∀j,j<K->v.tape (v.drawn+j)=w.tape (w.drawn+j)
def Po{α}:Ask α->y->Nat
 |.done _,_=>0
 |.ask what range k,w=>if(jg what range).forced then Po (k 0) w else Po (k ((jg what range).cut (w.tape w.drawn (.extern what range)))) { w with drawn:=w.drawn+1 }+1
def Gs{α}(P:im):Sem α->y->Nat
 |.pure _,_=>0
 |.load m a k,w=>match w.cell? a with|some v=>Gs P (k v) w|none=>match w.farLoad P a (m==.atomic) with|.ok q=>Gs P (k q.1) w|.error _=>0
 |.store m a v k,w=>match w.cell? a with|some _=>Gs P k (w.setCell a v)|none=>match w.farStore P a v (m==.atomic) with|.ok q=>Gs P k q.1|.error _=>0
 |.new o k,w=>Gs P (k w.1.size) { w with heap:=w.1.push o }
 |.shape r k,w=>Gs P (k (w.shape? r)) w
 |.freeze a n k,w=>Gs P k (w.freeze a n)
 |.frozen a k,w=>Gs P (k (w.frozen? a)) w
 |.getObj r k,w=>match w.1[r]? with|some o=>Gs P (k o) w|none=>0
 |.setObj r o k,w=>Gs P k { w with heap:=w.1.setIfInBounds r o }
 |.choose q k,w=>if q.forced then Gs P (k 0) w else Gs P (k (q.cut (w.tape w.drawn q))) { w with drawn:=w.drawn+1 }+1
 |.sys c k,w=>Po (Kernel.perform c w.os) w+Gs P (k (w.sys c).1) (w.sys c).2
 |.program k,w=>Gs P (k P) w
 |.mark _ k,w=>Gs P k w
 |.halt _,_=>0
def Ma.less{K F}(h:Ma w v K)(E:F<=K):Ma w v F:=λj l=>h j Aa
def WM:∀(b:Ask a)w v,Ma w v (Po b w)->(v.ask b).1=(w.ask b).1/\(v.ask b).2 = { v with drawn:=v.drawn+Po b w }/\(w.ask b).2 = { w with drawn:=w.drawn+Po b w }:=by
 intro b
 induction b with
 |done b=>intro w v _;exact⟨iI,iI,iI⟩
 |ask K c k O=>
  intro w v h;unfold World.ask Po;unfold Po at h;by_cases f:(jg K c).forced=km
  ·grind
  ·simp only[f,aR,bR]at h⊢;have F:=h 0 Aa;have ⟨S,L,Y⟩:=O ((jg K c).cut (w.tape w.drawn (.extern K c))) { w with drawn:=w.drawn+1 } { v with drawn:=v.drawn+1 } (λj l=>by
    have:=h (j+1) Aa
    grind)
   grind
def TW{α}(w v:y)(K:Nat):Result α->Result α->Prop
 |.ok a w',r=>∃v',r=.ok a v'/\Twin w' v'/\v'.tape=v.tape/\w'.tape=w.tape/\v'.drawn+w.drawn=v.drawn+w'.drawn
 |.halt _ _,r=>∃h v',r=.halt h v'
def GP{P}(h:v.1=w.1)(a b):v.farLoad P a b=w.farLoad P a b:=by
 unfold World.farLoad World.viewLoad World.seen World.noCell;simp only[h]
def ZQ{P}(h:v.1=w.1)(a u k b):v.seen P a u k b=w.seen P a u k b:=by
 unfold World.seen;simp only[h]
def R6{P}(h:Twin w v)(a x b):(∃e E,w.farStore P a x b=.error e/\v.farStore P a x b=.error E)∨∃Q l,w.farStore P a x b=.ok ({ w with heap:=Q },l)/\v.farStore P a x b=.ok ({ v with heap:=Q },l):=by
 unfold World.farStore World.noCell;rw[h.1];cases D:w.1[a.block]? with
 |none=>exact .inl ⟨_,_,iI,iI⟩
 |some o=>
  cases o with
  |view d u=>
   dsimp only;have c:∀z:y,z.1=w.1->z.viewStore P d u a x b=(w.viewStore P d u a x b).map λq=>({ z with heap:=q.1.1 },q.2):=λz N=>by
    unfold World.viewStore;by_cases R:(!tight P P.depth u)=km
    ·simp only[R,bQ];rfl
    ·simp only[R,aR,bR];rw[ZQ N,N];cases w.seen P d u a b with
     |error e=>rfl
     |ok q=>
      obtain⟨k,e,r,m,i,p⟩:=q;cases x.bytes? with
      |none=>rfl
      |some g=>
       simp only[bind,Except.bind,pure,Except.pure];by_cases K:lj (iK g)≠Option.map (λx=>iK x) i.bytes?
       ·rw[aL K,aL K];rfl
       ·rw[aM K,aM K];split<;>simp_all[Except.map]
   have n:=c w iI;have j:=c v h.1;cases f:w.viewStore P d u a x b with
   |error e=>rw[f]at j;rw[j];exact .inl ⟨_,_,iI,iI⟩
   |ok q=>
    rw[f]at j n;rw[j];refine .inr ⟨q.1.1,q.2,?_,iI⟩
    show Except.ok q=_;exact aJ Except.ok (by injection n)
  |_=>exact .inl ⟨_,_,iI,iI⟩
def Wr{P}:∀(s:Sem a)w v,Twin w v->Ma w v (Gs P s w)->TW w v (Gs P s w) (s.run P w) (s.run P v):=by
 intro s
 induction s with
 | pure c=>intro w v R b;exact⟨v,iI,R,iI,iI,Aa⟩
 | load m c k O=>
  intro w v R b;have M:v.cell? c=w.cell? c:=by unfold ur;rw[R.1]
  simp only[ux,Gs]at b⊢;rw[M,GP R.1];cases W:w.cell? c with
  | some y=>grind
  | none=>
   simp only[W]at b⊢;cases hf:w.farLoad P c (m == .atomic) with
   | error e=>exact⟨_,_,iI⟩
   | ok q=>grind
 | store m c y k O=>
  intro w v R b;have M:v.cell? c=w.cell? c:=by unfold ur;rw[R.1]
  have N:v.frozen? c=w.frozen? c:=by unfold World.frozen?;rw[R.1]
  by_cases Z:(∃d,y=.agg d)∨∃d,y=.tuple d
  ·rcases Z with⟨d,rfl⟩|⟨d,rfl⟩ <;> exact⟨_,_,iI⟩
  ·have e:∀z:gk,(Sem.store m c y k).run P z=match z.cell? c with|some _=>if z.frozen? c then .halt (.unsupported (.unsafePointer "a write to bytes that a string shares")) z else k.run P (z.setCell c y)|none=>match z.farStore P c y (m == .atomic) with|.ok (z',_)=>k.run P z'|.error h=>.halt h z:=λz=>by
    exact Udb
   rw[e,e,M,N];simp only[Gs]at b⊢;cases W:w.cell? c with
   | some a1=>
    simp only[W]at b⊢;split
    ·exact⟨_,_,iI⟩
    ·exact O _ _ ⟨(by unfold World.setCell;rw[R.1]),R.os,R.output⟩ b
   | none=>
    simp only[W]at b⊢;rcases R6 R c y (m == .atomic) (P:=P) with⟨S,L,C,J⟩|⟨Q,l,C,J⟩
    ·rw[C,J];exact⟨_,_,iI⟩
    ·rw[C]at b;rw[C,J];exact O { w with heap:=Q } { v with heap:=Q } ⟨rfl,R.os,R.output⟩ b
 | new o k O=>
  intro w v R b;simp only[ux,Gs]at b⊢;rw[R.1];exact O _ { w with heap:=w.1.push o } { v with heap:=w.1.push o } ⟨rfl,R.os,R.output⟩ b
 | shape r k O=>
  intro w v R b;have e:v.shape? r=w.shape? r:=by unfold World.shape?;rw[R.1]
  simp only[ux,Gs]at b⊢;rw[e];exact O _ w v R b
 | freeze c l k O=>
  intro w v R b;have e:(v.freeze c l).1=(w.freeze c l).1/\(v.freeze c l).os=v.os/\(v.freeze c l).output=v.output/\(w.freeze c l).os=w.os/\(w.freeze c l).output=w.output/\(v.freeze c l).tape=v.tape/\(w.freeze c l).tape=w.tape/\(v.freeze c l).drawn=v.drawn/\(w.freeze c l).drawn=w.drawn:=by
   unfold World.freeze;split
   ·exact⟨R.1,iI,iI,iI,iI,iI,iI,iI,iI⟩
   ·rw[R.1];exact⟨iI,iI,iI,iI,iI,iI,iI,iI,iI⟩
  obtain⟨S,L,Y,B,F,p,E,D,t⟩:=e;simp only[ux,Gs]at b⊢;have:=O (w.freeze c l) (v.freeze c l) ⟨S,by rw[L,B,R.os],by rw[Y,F,R.output]⟩ (λj g=>by rw[p,E,D,t];exact b j g);unfold TW at this⊢
  rwa[p,E,D,t]at this
 | frozen c k O=>
  intro w v R b;have e:v.frozen? c=w.frozen? c:=by unfold World.frozen?;rw[R.1]
  simp only[ux,Gs]at b⊢;rw[e];exact O _ w v R b
 | getObj r k O=>
  intro w v R b;simp only[ux,Gs]at b⊢;rw[R.1];cases W:w.1[r]? with
  | none=>exact⟨_,_,iI⟩
  | some o=>
   simp only[W]at b;cases o <;> first|exact⟨_,_,iI⟩|exact O _ w v R b
 | setObj r o k O=>
  intro w v R b;simp only[ux,Gs]at b⊢;rw[R.1];cases W:w.1[r]? with
  | none=>exact⟨_,_,iI⟩
  | some G=>cases G <;> first|exact⟨_,_,iI⟩|exact O { w with heap:=w.1.setIfInBounds r o } { v with heap:=w.1.setIfInBounds r o } ⟨rfl,R.os,R.output⟩ b
 | choose q k O=>
  intro w v R b;simp only[ux,Gs]at b⊢;by_cases u:q.forced=km
  ·simp only[u,bQ]at b⊢;exact O _ w v R b
  ·simp only[u,aR,bR]at b⊢;have H:v.tape v.drawn=w.tape w.drawn:=b 0 Aa;rw[H];have:=O (q.cut (w.tape w.drawn q)) { w with drawn:=w.drawn+1 } { v with drawn:=v.drawn+1 } ⟨R.1,R.os,R.output⟩ (λj g=>by
    have:=b (j+1) Aa
    show v.tape (v.drawn+1+j)=w.tape (w.drawn+1+j)
    rwa[show v.drawn+1+j=v.drawn+(j+1) by omega,show w.drawn+1+j=w.drawn+(j+1) by omega])
   revert this;unfold TW;split
   ·rintro⟨U,C,J,T,i,n⟩;exact⟨U,C,J,T,i,by simp only at n;omega⟩
   ·exact id
 | sys d k O=>
  intro w v R b;simp only[ux,Gs]at b⊢;obtain⟨S,L,Y⟩:=WM (Kernel.perform d w.os) w v (b.less (Nat.le_add_right _ _));have X:(v.sys d).1=(w.sys d).1/\Twin (w.sys d).2 (v.sys d).2/\(v.sys d).2.tape=v.tape/\(w.sys d).2.tape=w.tape/\∃f,f<=Po (Kernel.perform d w.os) w/\(v.sys d).2.drawn=v.drawn+f/\(w.sys d).2.drawn=w.drawn+f:=by
   unfold World.sys;rw[R.os];have I:v.ask (Kernel.perform d w.os)=((w.ask (Kernel.perform d w.os)).1,{ v with drawn:=v.drawn+Po (Kernel.perform d w.os) w }):=Prod.ext S L;have ew:w.ask (Kernel.perform d w.os)=((w.ask (Kernel.perform d w.os)).1,{ w with drawn:=w.drawn+Po (Kernel.perform d w.os) w }):=Prod.ext rfl Y;rw[I,ew];generalize (w.ask (Kernel.perform d w.os)).1=r;obtain⟨r,os⟩:=r;cases r <;> first
    | exact⟨iI,⟨R.1,iI,R.output⟩,iI,iI,_,aC _,iI,iI⟩
    | exact⟨iI,R,iI,iI,0,bF _,iI,iI⟩
  obtain⟨s1,s2,V,K,f,hd,x,A⟩:=X;rw[s1];have:=O (w.sys d).1 (w.sys d).2 (v.sys d).2 s2 (λj g=>by
   rw[V,K,x,A];have:=b (f+j) Aa
   rwa[fE,fE])
  revert this;unfold TW;split
  ·rintro⟨U,C,J,T,i,n⟩;exact⟨U,C,J,T.trans V,i.trans K,by rw[x,A]at n;omega⟩
  ·exact id
 | program k O=>intro w v R b;exact O P w v R b
 | mark m k O=>intro w v R b;exact O w v R b
 | halt h=>intro w v R b;exact⟨_,_,iI⟩
def BM{P}:∀s(w:gk)X(c:a)B,s.run P w=.ok c B->(∀f∈s.events P w X,f.loc≠.output)->B.drawn=w.drawn+Gs P s w:=by
 intro s
 induction s with
 | pure c=>intro w X x B Y _;cases Y;rfl
 | load m c k O=>
  intro w X x B Y N;simp only[ux,Gs]at Y⊢;unfold mf at N;simp only[yw]at N;cases W:w.cell? c with
  | some y=>simp only[W]at Y N⊢;exact O y w _ x B Y N
  | none=>
   simp only[W]at Y N⊢;cases I:w.farLoad P c (m == .atomic) with
   | error f=>grind
   | ok q=>simp only[I]at Y N⊢;exact O q.1 w _ x B Y N
 | store m c y k O=>
  intro w X x B Y N;by_cases Z:(∃d,y=.agg d)∨∃d,y=.tuple d
  ·rcases Z with⟨d,rfl⟩|⟨d,rfl⟩ <;> cases Y
  ·have e:∀z:gk,(Sem.store m c y k).run P z=match z.cell? c with|some _=>if z.frozen? c then .halt (.unsupported (.unsafePointer "a write to bytes that a string shares")) z else k.run P (z.setCell c y)|none=>match z.farStore P c y (m == .atomic) with|.ok (T,_)=>k.run P T|.error h=>.halt h z:=λz=>by
    exact Udb
   have L:∀z X,(Sem.store m c y k).runT P z X=match z.cell? c with|some _=>if z.frozen? c then(.halt (.unsupported (.unsafePointer "a write to bytes that a string shares")) z,X) else k.runT P (z.setCell c y) (X.push ⟨.cell c,km,m == .atomic⟩)|none=>match z.farStore P c y (m == .atomic) with|.ok (T,b)=>k.runT P T (X++b.toArray.map (⟨.cell ·,km,m == .atomic⟩))|.error h=>(.halt h z,X):=λz X=>by
    exact Udb
   rw[e]at Y;unfold mf at N;rw[L]at N;simp only[Gs];cases W:w.cell? c with
   | some z=>
    simp only[W]at Y N⊢;split at Y
    ·cases Y
    ·rename_i j;simp only[j,bR,aR]at N;exact O (w.setCell c y) _ x B Y N
   | none=>
    simp only[W]at Y N⊢;cases I:w.farStore P c y (m == .atomic) with
    | error f=>rw[I]at Y;cases Y
    | ok q=>
     have i:q.1.drawn=w.drawn:=by
      rcases R6 (Twin.refl w) c y (m == .atomic) (P:=P) with⟨e,L,C,J⟩|⟨Q,l,C,J⟩
      ·rw[C]at I;cases I
      ·rw[C]at I;cases I;rfl
     simp only[I]at Y N⊢;have:=O q.1 _ x B Y N;rw[this,i]
 | new o k O=>intro w X x B Y N;exact O _ { w with heap:=w.1.push o } X x B Y N
 | shape r k O=>intro w X x B Y N;exact O _ w X x B Y N
 | freeze c l k O=>
  intro w X x B Y N;have:=O (w.freeze c l) X x B Y N;rw[this];have i:(w.freeze c l).drawn=w.drawn:=by unfold World.freeze;split <;> rfl
  rw[i];rfl
 | frozen c k O=>intro w X x B Y N;exact O _ w X x B Y N
 | getObj r k O=>
  intro w X x B Y N;simp only[ux,Gs]at Y⊢;unfold mf at N;simp only[yw]at N;cases W:w.1[r]? with
  | none=>rw[W]at Y;cases Y
  | some o=>
   rw[W]at Y N;cases o <;> first|(cases Y;done)|exact O _ w _ x B Y N
 | setObj r o k O=>
  intro w X x B Y N;simp only[ux,Gs]at Y⊢;unfold mf at N;simp only[yw]at N;cases W:w.1[r]? with
  | none=>rw[W]at Y;cases Y
  | some p=>
   rw[W]at Y N;cases p <;> first|(cases Y;done)|exact O { w with heap:=w.1.setIfInBounds r o } _ x B Y N
 | choose q k O=>
  intro w X x B Y N;simp only[ux,Gs]at Y⊢;unfold mf at N;simp only[yw]at N;by_cases g:q.forced=km
  ·simp only[g,bQ]at Y N⊢;exact O _ w X x B Y N
  ·simp only[g,aR,bR]at Y N⊢;have:=O _ _ X x B Y N;rw[this]
   show w.drawn+1+_=_;omega
 | sys d k O=>
  intro w X x B Y N;exfalso;have e:(Sem.sys d k).events P w X=(k (w.sys d).1).events P (w.sys d).2 (X.push ⟨.output,km,sd⟩):=iI;rw[e,(λs w X=>Sem.events_acc P s w X)]at N;exact N ⟨.output,km,sd⟩ Ad iI
 | program k O=>intro w X x B Y N;exact O P w X x B Y N
 | mark m k O=>
  intro w X x B Y N;exact O w (X.push ⟨.mark m,sd,km⟩) x B Y N
 | halt h=>intro w X x B Y;cases Y
def Ko(J:gW)(v:y):Prop:=∀e,Hk v e->Ff J e
structure Pk(J:gW)(B):Prop where
 cell:∀a:Addr,J (.cell a)->a.block<B
 obj:∀r:Nat,J (.obj r)->r<B
def Pk.mono{J B G}(h:Pk J B)(k:B<=G):Pk J G:=⟨λa d=>aA (h.cell a d) k,λr Y=>aA (h.obj r Y) k⟩
def Ko.frame{J v X}(h:Ko J v)(K:Pk J v.1.size)(f:Dd v U X):Ko J U:=by
 intro e N W;obtain⟨l,wr,k⟩:=e;cases l with
 |cell a=>
  obtain⟨x,Z⟩:=N;have Y:=K.cell a W;have O:v.1[a.block]?=lj v.1[a.block]:=aO Y;generalize v.1[a.block]=o at O;refine h ⟨.cell a,wr,k⟩ ?_ W;by_cases z:Cj o
  ·obtain⟨I,G,j,_⟩:=f.5 _ _ O z;unfold ur at Z;rw[G]at Z;cases I with
   |cells c e i=>exact(j c e i iI).elim
   |_=>simp at Z
  ·cases o with
   |cells c e i=>
    obtain⟨B,n,p⟩:=f.row _ _ _ _ O;unfold ur at Z;rw[n]at Z;cases d:a.3 with
    |some s=>simp[d]at Z
    |none=>
     simp only[d,eR,aR,bR]at Z;have t:=(aG.1 Z).1;refine⟨c[a.off]' Aa,?_⟩;unfold ur
     grind
   |_=>exact(z (λ_ _ _ e=>HL)).elim
 |obj r=>
  obtain⟨I,G,j,n⟩:=N;have Y:=K.obj r W;have O:v.1[r]?=lj v.1[r]:=aO Y;generalize v.1[r]=o at O;refine h ⟨.obj r,wr,k⟩ ?_ W;by_cases z:Cj o
  ·obtain⟨u,g,T,q⟩:=f.5 _ _ O z;rw[G]at g;obtain rfl:=aB g;exact⟨o,O,z,λe=>n (q.trans e)⟩
  ·cases o with
   |cells c e i=>
    obtain⟨B,g,_⟩:=f.row _ _ _ _ O;rw[G]at g;obtain rfl:=aB g;exact(j _ _ _ iI).elim
   |_=>exact(z (λ_ _ _ e=>HL)).elim
 |mark m=>exact h ⟨.mark m,wr,k⟩ N W
 |output=>exact N.elim
 |goroutines=>exact N.elim
def R8:∃n:Z,∀G,n.Fix G:=⟨⟨id,λh=>h⟩,λG i _=>rfl⟩
inductive Oj(P S main J K fr up z z' w v):Prop
 |bad (o:Outcome) (v') (h:(o1 P km (G fr (up++z')) v).bare=.ended o v')
 |panic (chain) (v') (h:(o1 P km (G fr (up++z')) v).bare=.go (G (fr.raise chain) (up++z')) v')
 |go (fr') (up') (w' v') (hw:Ha P main J (G fr (up++z)) w (G fr' (up'++z)) w') (hs:(o1 P km (G fr (up++z')) w).bare=.go (G fr' (up'++z')) w') (hv:(o1 P km (G fr (up++z')) v).bare=.go (G fr' (up'++z')) v')
   (hf:Pg P S fr') (hu:FZ P S up') (ht:Twin w' v') (wt:w'.tape=w.tape) (vt:v'.tape=v.tape) (vd:v'.drawn=v.drawn+K)
section
variable {P:im} {S:Env} {k:Bool} {J:gW}
def Oj.ctl{fr' a}(Y:∀n(m:Bool)cs(w:y),n.Fix P.globals.size->o1 P m (G (Bj n X) cs) w=.go (G (Bj n fr') cs) w)(h:∀cs(w:y),o1 P km (G X cs) w=.go (G fr' cs) w)(Q:Plain w)(R:Twin w v)(I:Pg P S fr')(r:FZ P S a):Oj P S k J 0 X a z T w v:=
 .go fr' a w v (FL iI Q λn w p=>Y n k _ w p) Aa1 Aa1 I r R iI iI iI
def EJ(h:Pg P S X){k}(E:∀l∈k,OW P S X.fn l):Pg P S { X with todo:=k }:=⟨h.defers,h.kind,h.round,h.fn,h.mode,λ_=>E,h.reg⟩
def MK(h:Pg P S X):Pg P S { X with mode:=.returning }:=⟨h.defers,h.kind,h.round,h.fn,.inr rfl,λe=>HL,h.reg⟩
def Oj.lost{a K}{f:y->Outcome}(h:∀cs w,o1 P km (G X cs) w=.ended (f w) w):Oj P S k J K X a z T w v:=
 .bad _ v Aa1
def Z4{x}(h:OkN P S x):known x:=by cases x<;>first|trivial|exact h.elim
def AN{g k}(h:X.todo=.inRegion g l::k):(Bj n X).todo=.inRegion g l::k.map (Df n):=by simp[Bj,h,Df]
def ZB(h:X.7=jh):(Bj n X).7=jh:=by simp[Bj,h]
def Twin.plain(h:Twin w v)(Q:r w):r v:=λi o O=>Q i o (by rwa[←h.1])
def OC{m}(L:X.mode=.run)(Y:X.7=jh){g k}(I:X.todo=.inRegion g (i::l)::k)(O:g[i]?=lj o)(v:Region.wanted o (iu g X.tmps)=km):o1 P m (G X cs) w=stepG.apply P km X cs jh (execOp X.eval o) w:=by
 rw[Be L];simp[o8,I,O,v,stepG.oper,Frame.oper?,Y]
def Oj.op(hS:TS P S){t}(b:Pg P S X)(L:X.mode=.run)(r:FZ P S t){g a}(I:X.todo=.inRegion g (i::l)::a)(O:g[i]?=lj o)(aa:Region.wanted o (iu g X.tmps)=km)(Z:Oi P S X.fn o)(Q:Plain w)(D:Ko J w)(hl:Pk J w.1.size)(R:Twin w v)(ha:Ma w v (Gs P (execOp X.eval o) w)):Oj P S k J (Gs P (execOp X.eval o) w) X t z T w v:=by
 obtain⟨F,H⟩:=R8;have K:(X.kind==ri)=sd:=by rw[b.kind];rfl
 have W:=Z.rf F X (H _) b.reg;have e:=Wr (P:=P) (execOp X.eval o) w v R ha;have V:∀cs w,o1 P km (G X cs) w=stepG.apply P km X cs jh (execOp X.eval o) w:=λcs w=>OC L b.round I O aa;cases c:(execOp X.eval o).run P w with
 |halt ab d=>
  rw[c]at e;obtain⟨Y,U,q⟩:=e;have D:=W.halts v Y U (R.plain Q) q;cases Y with
  |stuck s=>exact .bad _ U SR
  |unsupported a7=>cases a7<;>first|exact D.elim|exact .bad _ U SR
  |panic x=>
   refine .panic [{ v:=x,recovered:=sd }] U ?_;rw[V];simp only[stepG.apply,sr,q,bQ]
   rfl
  |_=>exact D.elim
 |ok x d=>
  rw[c]at e;obtain⟨U,q,h,m,j,dd⟩:=e;obtain⟨m1,m2,m3⟩:=W.mono w x d Q c;have B:=Z.2 X w x d b.reg Q c;have hd:=BM (execOp X.eval o) w #[] x d c (λf N O=>by have:=m3 f N;unfold Hk at this;grind);have E:∀z,Ha P k J (G X (t++z)) w (Uq P X (t++z) x) d:=λz=>Afk (t:=λn=>execOp (Bj n X).eval o) K ⟨_,_,_,I⟩ Q (Z4 B)
   (λn w hG=>OC (Co L) (ZB b.round) (AN I) O (by rwa[show(Bj n X).tmps=X.tmps.map (Az n) from iI,E1]))
   (λn hG=>Z.rf n X hG b.reg) ⟨F,H _⟩ c (λf N=>D.frame hl m2 f (m3 f N))
  have p:∀T,(o1 P km (G X (t++T)) v).bare=.go (Uq P X (t++T) x) U:=λT=>by
   rw[Qs K ⟨_,_,_,I⟩ (V _ _) q (Z4 B)];rfl
  have A:∀T,(o1 P km (G X (t++T)) w).bare=.go (Uq P X (t++T) x) d:=λT=>by
   rw[Qs K ⟨_,_,_,I⟩ (V _ _) c (Z4 B)];rfl
  have u:U.drawn=v.drawn+Gs P (execOp X.eval o) w:=Aa;have a1:=Acl (P:=P) I O;cases x with
  |value x=>
   obtain⟨C,h2⟩:=Nr b L x (a1.1 x _ _ c);exact .go (X.finish x) t d U (E z) (A T) (p T) C r h j m u
  |skip=>
   obtain⟨C,h2⟩:=Nr b L qp (Xj _);exact .go (X.finish qp) t d U (E z) (A T) (p T) C r h j m u
  |enter a6 y=>
   obtain⟨C,h2⟩:=AD (P:=P) hS B.1 y B.2;refine .go (w8 P a6 y .normal) (X::t) d U (E z) (A T) (p T) C (λa8 M=>?_) h j m u;simp only[bH]at M;rcases M with rfl|M
   ·exact⟨b,L,a1.2 a6 y _ _ c⟩
   ·exact r a8 M
  |_=>exact B.elim
def ZO(hS:TS P S){up}(g:Pg P S X)(L:X.mode=.run)(r:FZ P S up)(w)(Q:Plain w)(hb:Ko J w)(hl:Pk J w.1.size):∃K,∀z T(v:gk),Twin w v->Ma w v K->Oj P S k J K X up z T w v:=by
 have Y:=g.todo L;cases I:X.todo with
 |nil=>
  refine⟨0,λz T v R _=>Oj.ctl (fr':={ X with mode:=.returning }) (λn m cs w p=>?_) (λcs w=>?_) Q R (MK g) r⟩
  ·rw[Be (Co L)];simp[o8,I,g.round,G,Bj,Jx]
  ·rw[Be L];simp[o8,I,g.round,G]
 |cons x a=>
  rw[I]at Y;have E:∀A∈a,OW P S X.fn A:=λA V=>Y A (by simp[V]);have Z:OW P S X.fn x:=Y x Ad;have u:∀{y},OW P S X.fn y->∀A∈y::a,OW P S X.fn A:=λhy A V=>by
   grind
  have j:∀{y W},OW P S X.fn y->OW P S X.fn W->∀A∈y::W::a,OW P S X.fn A:=λhy a7 A V=>by
   grind
  have q:∀{k'},(∀A∈k',OW P S X.fn A)->(∀n(m:Bool)cs(w:gk),n.Fix P.globals.size->o1 P m (G (Bj n X) cs) w=.go (G (Bj n { X with todo:=k' }) cs) w)->(∀cs w,o1 P km (G X cs) w=.go (G { X with todo:=k' } cs) w)->∃K,∀z T(v:gk),Twin w v->Ma w v K->Oj P S k J K X up z T w v:=
   λai C D=>⟨0,λz T v R _=>Oj.ctl C D Q R (EJ g ai) r⟩
  have H:(∀(n:Ren)(m:Bool)(cs:List qq)(w:gk),n.Fix P.globals.size->o1 P m (G (Bj n X) cs) w=.go (G ((Bj n X).finish qp) cs) w)->(∀cs w,o1 P km (G X cs) w=.go (G (X.finish qp) cs) w)->∃K,∀(z T:List qq)(v:gk),Twin w v->Ma w v K->Oj P S k J K X up z T w v:=λC D=>by
   obtain⟨g1,g2⟩:=Nr g L qp (Xj _);exact⟨0,λz T v R _=>Oj.ctl (fr':=X.finish qp) (λn m cs w p=>by rw[C n m cs w p,Ov]) D Q R g1 r⟩
  have B:(∃o,∀cs w,o1 P km (G X cs) w=.ended o w)->∃K,∀(z T:List qq)(v:gk),Twin w v->Ma w v K->Oj P S k J K X up z T w v:=fun⟨o,h⟩=>⟨0,λz T v _ _=>Oj.lost (f:=λ_=>o) h⟩;cases x with
  |code d=>
   cases d with
   |skip=>exact q E Aju λcs w=>by rw[Be L];simp[o8,I,G,L]
   |label l=>exact q E Aju λcs w=>by rw[Be L];simp[o8,I,G,L]
   |ret=>
    refine⟨0,λz T v R _=>Oj.ctl (fr':={ X with mode:=.returning }) (λn m cs w p=>?_) (λcs w=>?_) Q R (MK g) r⟩
    ·rw[Be (Co L)];simp[o8,I,g.round,G,Bj,Jx,Df]
    ·rw[Be L];simp[o8,I,g.round,G]
   |seq i b=>exact q (k':=.code i::.code b::a) (j Z.1 Z.2) Aju λcs w=>by rw[Be L];simp[o8,I,G,L]
   |cond d i b=>
    by_cases M:∃t,X.eval d=.bool t
    ·obtain⟨t,M⟩:=M;refine q (k':=.code (if t then i else b)::a) (u ?_) (λn m cs w p=>?_) λcs w=>by rw[Be L];simp[o8,I,G,L,M]
     ·cases t
      ·exact Z.2
      ·exact Z.1.2
     ·have N:(Bj n X).eval d=.bool t:=by rw[P2 p X (Bj n X) iI d Z.1.1,M];simp
      have ae:(Bj n X).todo=.code (.cond d i b)::a.map (Df n):=by simp[Bj,I,Df]
      rw[Be (Co L)];simp only[o8,ae,N];simp[G,Bj,I,Df,Jx,L]
    ·apply B;cases N:X.eval d with
     |bool t=>exact absurd ⟨t,N⟩ M
     |_=>exact⟨_,λcs w=>by rw[Be L];simp only[o8,I,N];rfl⟩
   |block e b=>exact q (k':=.code b::.inBlock e::a) (j Z trivial) Aju λcs w=>by rw[Be L];simp[o8,I,G,L]
   |loop b=>exact q (k':=.code b::.inLoop b::a) (j Z Z) Aju λcs w=>by rw[Be L];simp[o8,I,G,L]
   |scope b=>exact q (k':=.code b::.inScope b::a) (j Z Z) Aju λcs w=>by rw[Be L];simp[o8,I,G,L]
   |exit e=>
    cases N:exitTo e a with
    |some k'=>exact q (k':=k') (Adr E N) (λn m cs w _=>by rw[Be (Co L)];simp[o8,I,G,L,Bj,Df,Jx,Oq,N]) λcs w=>by rw[Be L];simp[o8,I,G,L,N]
    |none=>exact B ⟨_,λcs w=>by rw[Be L];simp only[o8,I,N,ll,g.round];rfl⟩
   |goto l=>
    cases N:gotoIn l a with
    |some k'=>exact q (k':=k') (Ads E N) (λn m cs w _=>by rw[Be (Co L)];simp[o8,I,G,L,Bj,Df,Jx,Su,N]) λcs w=>by rw[Be L];simp[o8,I,G,L,N]
    |none=>exact B ⟨_,λcs w=>by rw[Be L];simp only[o8,I,N,ll,g.round];rfl⟩
   |rangeFunc f ps i b=>exact Z.elim
   |refuse s=>exact Z.elim
   |region e c ad=>
    cases ad with
    |false=>exact q (k':=.inRegion c (yo c.size)::a) (u Z) Aju λcs w=>by rw[Be L];simp[o8,I,G,L]
    |true=>
     refine⟨1,λz T v R ag=>?_⟩;have e0:v.tape v.drawn=w.tape w.drawn:=ag 0 Aa;have U:∀cs (w:gk),o1 P km (G X cs) w=.go (G { X with todo:=.inRegion c (Region.schedule (P.follows .mixedOrders) c (w.tape w.drawn (.order X.fn e)))::a } cs) { w with drawn:=w.drawn+1 }:=by
      intro cs w;rw[Be L];simp[o8,I,G,L,choose,ux,ql,y9]
     refine .go { X with todo:=.inRegion c (Region.schedule (P.follows .mixedOrders) c (w.tape w.drawn (.order X.fn e)))::a } up { w with drawn:=w.drawn+1 } { v with drawn:=v.drawn+1 } (BC rfl Q λn w' p a6 ah=>?_) ?_ ?_ (EJ g (u Z)) r ⟨R.1,R.os,R.output⟩ rfl rfl rfl
     ·rw[Ep,Be (Co L)];simp[o8,I,G,L,Bj,Df,Jx,Bn,choose,ux,ql,y9,a6,ah]
     ·rw[U];rfl
     ·rw[U,e0];rfl
  |inBlock e=>exact q E Aju λcs w=>by rw[Be L];simp[o8,I,G,L]
  |inScope b=>exact q E Aju λcs w=>by rw[Be L];simp[o8,I,G,L]
  |inLoop b=>exact q (k':=.code b::.inLoop b::a) (j Z Z) Aju λcs w=>by rw[Be L];simp[o8,I,G,L]
  |inRegion c l=>
   cases l with
   |nil=>exact q E Aju λcs w=>by rw[Be L];simp[o8,I,G,L]
   |cons a1 l=>
    cases O:c[a1]? with
    |none=>exact H (λn m cs w _=>by rw[Be (Co L)];simp[o8,AN I,G,O]) λcs w=>by rw[Be L];simp[o8,I,G,O]
    |some o=>
     cases F:Region.wanted o (iu c X.tmps) with
     |false=>exact H (λn m cs w _=>by rw[Be (Co L)];simp[o8,AN I,G,O,show(Bj n X).tmps=X.tmps.map (Az n) from iI,E1,F]) λcs w=>by rw[Be L];simp[o8,I,G,O,F]
     |true=>exact⟨_,λz T v R ha=>Oj.op hS g L r I O F (Z a1 o O) Q hb hl R ha⟩
  |_=>exact Z.elim
end
section
variable {P:im} {S:Env} {k:Bool} {J:gW}
def O7(u)(a:gY):Rf P n (Az n) (results u a) (results u (a.map (Az n))):=by
 have h:=Rf.arrayMapM (P:=P) (n:=n) (H:=λ_=>False) (f:=id) (k:=fun|ResultVar.tmp t=>(pure (a.getD t qp):Sem uo)|.cell b t=>do loadVar t (←asAddr (a.getD b qp))) (k':=fun|ResultVar.tmp t=>(pure ((a.map (Az n)).getD t qp):Sem uo)|.cell b t=>do loadVar t (←asAddr ((a.map (Az n)).getD b qp))) (λx=>by
  cases x with
  |tmp t=>exact Rf.pure (Zt _ _)
  |cell b t=>
   show Rf P n _ _ (do loadVar t (←asAddr ((a.map (Az n)).getD b qp)));rw[Zt];exact Rf.bind (Rf.asAddr _) λ_=>Rf.loadVar _ _) u.results
 rw[Array.map_id]at h;refine Rf.bind h λc=>Rf.pure ?_;by_cases q:c.size=1
 ·simp[q]
 ·simp[q]
def O8{fr c cs m u a}(L:fr.mode=.returning)(y:fr.defers = [])(E:fr.kind=.normal)(I:P.funcs[fr.fn]?=lj u)(Y:(results u fr.tmps).run P w=.ok a B):o1 P m (G fr (c::cs)) w=.go (G (c.finish a) cs) B (seen P fr.fn ((results u fr.tmps).events P w #[])):=by
 have V:o1 P m (G fr (c::cs)) w=lf P m fr (c::cs) jh w:=by unfold o1 G;simp only[L]
 rw[V];simp only[lf,y,L,I,sr,Y,doReturn,E];simp[rq,G]
def stepR_ret{c u a}(L:fr.mode=.returning)(y:fr.defers = [])(E:fr.kind=.normal)(I:P.funcs[fr.fn]?=lj u)(Q:r v)(Y:(results u fr.tmps).run P v=.ok a U)(W:∀e∈(results u fr.tmps).events P v #[],Ff J e):Ha P k J (G fr (c::cs)) v (G (c.finish a) cs) U:=by
 obtain⟨l,_⟩:=R8;obtain⟨i,f,b⟩:=(O7 (P:=P) (n:=l) u fr.tmps).mono v a U Q Y;refine⟨iI,i,⟨_,f,λe N=>⟨b e N,W e N⟩⟩,λn t w p R s=>?_⟩;obtain⟨B,C,d,T,q⟩:=(O7 (P:=P) (n:=n) u fr.tmps).sim J t v w s Q W a U Y R;refine⟨B,seen P fr.fn ((results u (fr.tmps.map (Az n))).events P w #[]),(results u fr.tmps).events P v #[],?_,T,by rwa[←d],λe N=>⟨b e N,W e N⟩,λe N=>by rw[←d];exact mem_seen N⟩;have:=O8 (P:=P) (m:=k) (fr:=Bj n fr) (c:=Bj n c) (cs:=cs.map (Bj n)) (IQ L) (by simp[Bj,y]) E I C;rw[Ep,bC,this,Mg]
 rfl
def ZE(H:TS P S){c j}(f:Pg P S X)(L:X.mode=.returning)(r:FZ P S (c::j))(w)(Q:Plain w)(D:Ko J w)(n:Pk J w.1.size):∃K,∀z T(v:gk),Twin w v->Ma w v K->Oj P S k J K X (c::j) z T w v:=by
 obtain⟨u,I⟩:=f.fn;obtain⟨l,_⟩:=R8;obtain⟨M,t,i⟩:=r c Ad;have b:=O7 (P:=P) (n:=l) u X.tmps;refine⟨Gs P (results u X.tmps) w,λz T v R m=>?_⟩;have g:=Wr (P:=P) (results u X.tmps) w v R m;have V:∀cs w,o1 P km (G X cs) w=lf P km X cs jh w:=λcs w=>by unfold o1 G;simp only[L]
 cases s:(results u X.tmps).run P w with
 |halt E B=>
  rw[s]at g;obtain⟨d,U,q⟩:=g;have D:=b.halts v d U (R.plain Q) q;cases d with
  |_=>exact .bad _ U (by rw[V];simp only[lf,f.defers,L,I,sr,q];rfl)
 |ok a B=>
  rw[s]at g;obtain⟨U,q,p,o,x,Y⟩:=g;obtain⟨F,y,h⟩:=b.mono w a B Q s;have O:=BM (results u X.tmps) w #[] a B s (λe N W=>by have:=h e N;unfold Hk at this;grind);obtain⟨C,a1⟩:=Nr M t a (i a);refine .go (c.finish a) j B U (stepR_ret L f.defers f.kind I Q s λe N=>D.frame n y e (h e N)) ?_ ?_ C (λA Z=>r A (by simp[Z])) p x o Aa
  ·rw[cK,O8 L f.defers f.kind I s];rfl
  ·rw[cK,O8 L f.defers f.kind I q];rfl
end
def Lb(P:im):qq:={ fn:=P.funcs.size,tmps:=#[],todo:=[.call default sd "fmt's door, shut" #[]],defers:=[],mode:=.run,kind:=.normal }
section
variable {P:im} {S:Env}
def Qb{V d}(h:o9 X cs w=o9 V d B):X=V/\cs=d/\w=B:=by
 simp only[o9,Machine.mk.injEq,fV,dP,ve]at h
 grind
def U8{n V d m}(h:(o1 P km (G X cs) w).bare=.go (G V d) B)(Y:runN P (n+1) (o9 X cs w)=.next m):runN P n (o9 V d B)=.next m:=by
 have:=step_lone_go h;simpa only[runN,this] using Y
def runN_ended{n o m}(h:(o1 P km (G X cs) w).bare=.ended o B)(Y:runN P (n+1) (o9 X cs w)=.next m):False:=by
 have:=step_lone_ended h;simp[runN,this]at Y
def Jw(L:X.mode≠.run):o1 P km (G X cs) w=lf P km X cs jh w:=by
 unfold o1 G
 grind
def raise_mode(X:N)(a):∃c,X.raise a = { X with mode:=.panicking c }:=by
 unfold Frame.raise;split<;>exact⟨_,iI⟩
def RP:∀e(X:N)c,X.defers = []->(∃f,P.funcs[X.fn]?=lj f)->(∀x∈e,x.defers = []/\∃f,P.funcs[x.fn]?=lj f)->∀n(v U:gk)V(d:List N),
  runN P n (o9 { X with mode:=.panicking c } (e++[Lb P]) v)=.next (o9 V d U)->∃B,V.mode=.panicking B:=by
 intro e
 induction e with
 |nil=>
  intro X c h I r n v U V d Y;obtain⟨f,I⟩:=I;cases n with
  |zero=>
   exact Jrj
  |succ n=>
   obtain⟨R,L⟩:=raise_mode (Lb P) c;have C:(o1 P km (G { X with mode:=.panicking c } ([]++[Lb P])) v).bare=.go (G { Lb P with mode:=.panicking R } []) v:=by
    rw[Jw Ad,←L];simp only[lf,h,xp,I]
    rfl
   have J:=U8 C Y;cases n with
   |zero=>
    simp only[runN,qz]at J;rw[←(Qb J).1];exact⟨_,iI⟩
   |succ n=>
    have b:P.funcs[P.funcs.size]?=jh:=Ad;have T:∃o,(o1 P km (G { Lb P with mode:=.panicking R } []) v).bare=.ended o v:=by
     rw[Jw Ad];have M:xp P { Lb P with mode:=.panicking R }=km:=by
      simp only[xp,Lb,b]
      decide +kernel
     simp only[lf,Lb]at M⊢
     simp_all
    obtain⟨o,T⟩:=T;exact(runN_ended T J).elim
 |cons x e O=>
  intro X c h I r n v U V d Y;obtain⟨f,I⟩:=I;cases n with
  |zero=>
   exact Jrj
  |succ n=>
   obtain⟨Z,i⟩:=r x Ad;obtain⟨R,L⟩:=raise_mode x c;have C:(o1 P km (G { X with mode:=.panicking c } ((x::e)++[Lb P])) v).bare=.go (G { x with mode:=.panicking R } (e++[Lb P])) v:=by
    rw[Jw Ad,←L];simp only[lf,h,xp,I,cK]
    rfl
   exact O x R Z i (λy a=>r y (by simp[a])) n v U V d (U8 C Y)
def NN(b:Pg P S X)(L:X.mode=.returning)(n v U V):runN P (n+1) (o9 X [Lb P] v)≠.next (o9 V [Lb P] U):=by
 intro Y;obtain⟨u,I⟩:=b.fn;cases g:(results u X.tmps).run P v with
 | halt h t=>
  have C:∃o,(o1 P km (G X [Lb P]) v).bare=.ended o t:=by
   rw[Jw (by rw[L];simp)];simp only[lf,b.defers,L,I,sr,g];cases h <;> exact⟨_,iI⟩
  obtain⟨o,C⟩:=C;exact runN_ended C Y
 | ok x t=>
  have C:(o1 P km (G X [Lb P]) v).bare=.go (G ((Lb P).finish x) []) t:=by
   rw[Jw (by rw[L];simp)];simp only[lf,b.defers,L,I,sr,g,doReturn,b.kind]
   rfl
  have J:=U8 C Y;cases n with
  | zero=>
   simp only[runN,qz]at J;have:=(Qb J).2.1;simp at this
  | succ n=>
   have Z:Extern.next "fmt's door, shut" = jh:=by decide +kernel
   have T:∃o,(o1 P km (G ((Lb P).finish x) []) t).bare=.ended o t:=by
    rw[Be iI];simp only[o8,Lb,od,Z,ll];exact⟨_,iI⟩
   obtain⟨o,T⟩:=T;exact runN_ended T J
end
inductive Tree
 |leaf
 |node (f:Nat->Tree)
def FwT(P:im)(main:Bool)(J:gW)(Stop:vr->y->Prop):Tree->vr->y->Prop
 |.leaf,g,v=>r v/\∀d,Stop g (v.at d)
 |.node f,g,v=>r v/\g.status=.running/\∀d,∃g' v',Ha P main J g (v.at d) g' v'/\FwT P main J Stop (f d) g' v'
def Fw(P:im)(main:Bool)(J:gW)(Stop:vr->y->Prop)(g:vr)(v:y):Prop:=∃T,FwT P main J Stop T g v
def EV(P:im)(main:Bool)(J:gW)(Stop:vr->y->Prop)(g:vr)(v:y):Prop:=r v->Fw P main J Stop g v
section
variable {P:im} {J:gW}
def FwT.at{T}(a:FwT P main J F T h v)(d):FwT P main J F T h (v.at d):=by cases T<;>exact a
def Fw.at(a:Fw P main J F h v)(d):Fw P main J F h (v.at d):=let⟨T,a⟩:=a;⟨T,a.at d⟩
def Fw.step(z:r v)(Y:h.status=.running)(a:∀d,∃R U,Ha P main J h (v.at d) R U/\Fw P main J F R U):Fw P main J F h v:=
 ⟨.node λd=>(a d).choose_spec.choose_spec.2.choose,z,Y,λd=>⟨(a d).choose,(a d).choose_spec.choose,(a d).choose_spec.choose_spec.1,(a d).choose_spec.choose_spec.2.choose_spec⟩⟩
def EV.stop(a:∀d,F h (v.at d)):EV P main J F h v:=λz=>⟨.leaf,z,a⟩
def EV.at(a:EV P main J F h v)(d):EV P main J F h (v.at d):=λz=>Fw.at (a z) d
def EV.step(Y:h.status=.running)(a:r v->∀d,∃R U,Ha P main J h (v.at d) R U/\EV P main J F R U):EV P main J F h v:=λz=>
 Fw.step z Y λd=>let⟨R,U,C,b⟩:=a z d;⟨R,U,C,b C.plain⟩
end
section
variable {P:im} {S:Env} {J:gW} {c0:N} {cs0:List N} {tp:Nat->Question->Nat}
structure Yz(P S main J)(Stop:vr->gk->Prop)(c0 cs0)(tp:Nat->Question->Nat) where
 fr:qq
 up:List qq
 w:gk
 okf:Pg P S fr
 oku:FZ P S up
 plain:Plain w
 blind:Ko J w
 low:Pk J w.1.size
 tape:w.tape=tp
 not:¬Fw P main J Stop (G fr (up++c0::cs0)) w
structure Adv(x:Yz P S main J Stop c0 cs0 tp)(d K)(y:Yz P S main J Stop c0 cs0 tp):Prop where
 mid:¬(x.up = []/\x.1.mode=.returning)->(∀v,Twin (x.w.at d) v->Ma (x.w.at d) v K->Oj P S main J K x.1 x.up (c0::cs0) [Lb P] (x.w.at d) v) /\
  ∀fr' up' w',(o1 P km (G x.1 (x.up++[Lb P])) (x.w.at d)).bare=.go (G fr' (up'++[Lb P])) w'->Ha P main J (G x.1 (x.up++c0::cs0)) (x.w.at d) (G fr' (up'++c0::cs0)) w'->Pg P S fr'->FZ P S up'->w'.tape=tp->y.1=fr'/\y.up=up'/\y.w=w'
 last:x.up = []->x.1.mode=.returning->∀fn,P.funcs[x.1.fn]?=lj fn->K=Gs P (results fn x.1.tmps) (x.w.at d)/\∀val w',(results fn x.1.tmps).run P (x.w.at d)=.ok val w'->¬EV P main J Stop (G (c0.finish val) cs0) w'
def YI(H:TS P S){a}(I:Pg P S X)(r:FZ P S a)(d:¬(a = []/\X.mode=.returning))(w)(Q:Plain w)(D:Ko J w)(b:Pk J w.1.size):∃K,∀z T(v:y),Twin w v->Ma w v K->Oj P S main J K X a z T w v:=by
 rcases I.mode with L|L
 ·exact ZO H I L r w Q D b
 ·cases a with
  |nil=>exact absurd ⟨iI,L⟩ d
  |cons c a=>exact ZE H I L r w Q D b
def Ha.blind{g}(h:Ha P main J g v R U)(D:Ko J v)(K:Pk J v.1.size):Ko J U/\Pk J U.1.size:=by
 have ⟨X,f,_⟩:=h.frame;exact⟨D.frame K f,K.mono f.size⟩
def adv(H:TS P S)(x:Yz P S main J Stop c0 cs0 tp):∃d K y,Adv x d K y:=by
 have Z:∃d,∀R U,Ha P main J (G x.1 (x.up++c0::cs0)) (x.w.at d) R U->¬Fw P main J Stop R U:=by
  refine cH λa8=>x.not (Fw.step x.plain iI λd=>?_)
  simp_all
 obtain⟨d,j⟩:=Z;by_cases Q:x.up = []/\x.1.mode=.returning
 ·obtain⟨r,L⟩:=Q;obtain⟨u,I⟩:=x.4.fn;refine⟨d,Gs P (results u x.1.tmps) (x.w.at d),x,λi=>absurd ⟨r,L⟩ i,λ_ _ O W=>?_⟩;obtain rfl:O=u:=aB (W.symm.trans I);refine⟨iI,λval a o D=>?_⟩;obtain⟨l,_⟩:=R8;obtain⟨m1,m,q⟩:=(O7 (P:=P) (n:=l) O x.1.tmps).mono (x.w.at d) val a x.plain o;have s:Ha P main J (G x.1 (x.up++c0::cs0)) (x.w.at d) (G (c0.finish val) cs0) a:=by
   rw[r];exact stepR_ret L x.4.defers x.4.kind I x.plain o λe N=>Ko.frame (v:=x.w.at d) x.blind x.low m e (q e N)
  exact j _ _ s (D s.plain)
 ·obtain⟨K,p⟩:=YI (J:=J) (main:=main) H x.4 x.5 Q (x.w.at d) x.plain x.blind x.low;by_cases k:∃V F a,(o1 P km (G x.1 (x.up++[Lb P])) (x.w.at d)).bare=.go (G V (F++[Lb P])) a/\Ha P main J (G x.1 (x.up++c0::cs0)) (x.w.at d) (G V (F++c0::cs0)) a/\Pg P S V/\FZ P S F/\a.tape=tp
  ·obtain⟨V,F,a,C,c,T,t,z⟩:=k;obtain⟨A,B⟩:=c.blind x.blind x.low;refine⟨d,K,⟨V,F,a,T,t,c.plain,A,B,z,j _ _ c⟩,λ_=>⟨λv s g=>p _ _ v s g,λf h E b _ _ _ _=>?_⟩,λr L=>absurd ⟨r,L⟩ Q⟩;rw[C]at b;injection b with Y M;simp only[G,ve]at Y;obtain⟨w,X,_⟩:=Y;exact⟨w,List.append_cancel_right X,M⟩
  ·exact⟨d,K,x,λ_=>⟨λv s g=>p _ _ v s g,λf h E b a1 a6 a7 n=>absurd ⟨f,h,E,b,a1,a6,a7,n⟩ k⟩,λr L=>absurd ⟨r,L⟩ Q⟩
section
variable (H:TS P S) (p:Yz P S main J Stop c0 cs0 tp)
noncomputable def RF(x:Yz P S main J Stop c0 cs0 tp):Yz P S main J Stop c0 cs0 tp:=(adv H x).choose_spec.choose_spec.choose
noncomputable def P1(x:Yz P S main J Stop c0 cs0 tp):Nat:=(adv H x).choose
noncomputable def BL(x:Yz P S main J Stop c0 cs0 tp):Nat:=(adv H x).choose_spec.choose
def Aa8(x:Yz P S main J Stop c0 cs0 tp):Adv x (P1 H x) (BL H x) (RF H x):=(adv H x).choose_spec.choose_spec.choose_spec
noncomputable def La:Nat->Yz P S main J Stop c0 cs0 tp
 |0=>p
 |n+1=>RF H (La n)
noncomputable def posOf:Nat->Nat
 |0=>0
 |n+1=>posOf n+BL H (La H p n)
open Classical in
noncomputable def JG(n:Nat)(q:Question):Nat:=
 if h:∃ij:Nat×Nat,n=posOf H p ij.1+ij.2/\ij.2<BL H (La H p ij.1) then tp (P1 H (La H p h.choose.1)+h.choose.2) q else 0
def ND{k}(h:i<=k):posOf H p i<=posOf H p k:=by
 induction k with
 |zero=>grind
 |succ k O=>
  rcases Nat.lt_or_ge i (k+1) with Y|v
  ·exact aE (O Aa) (Nat.le_add_right _ _)
  grind
def VQ{i j}(l:j<BL H (La H p i)):JG H p (posOf H p i+j)=tp (P1 H (La H p i)+j):=by
 funext q
 unfold JG;have Q:∃I:Nat×Nat,posOf H p i+j=posOf H p I.1+I.2/\I.2<BL H (La H p I.1):=⟨(i,j),iI,l⟩;rw[dif_pos Q];have n:=Q.choose_spec;generalize Q.choose=I at n;have ⟨F,a⟩:=I;have ⟨C,J⟩:=n;simp only at C J⊢;have:i=F:=by
  rcases Nat.lt_trichotomy i F with h|h|h
  ·have:=ND H p (show i+1<=F from h);simp only[posOf]at this;omega
  ·exact h
  ·have:=ND H p (show F+1<=i from h);simp only[posOf]at this;omega
 grind
theorem YA{R:Ending->gk->Prop}{a:qq}{val:uo}(K:a.leaving P U (.returned val))(ak:R (.returned val) U)(O:∀val w v,Twin w v->w.tape=tp->R (.returned val) v->EV P main J Stop (G (c0.finish val) cs0) w) :
  ∀(n i:Nat)(L:gk),runN P n (o9 (La H p i).1 ((La H p i).up ++ [Lb P]) L)=.next (o9 a [Lb P] U)->Twin (La H p i).w L->L.tape=JG H p->L.drawn=posOf H p i->False:=by
 intro n
 induction n with
 | zero=>
  intro i L Y t d V;simp only[runN,qz]at Y;obtain⟨S,N,u⟩:=Qb Y;have g:=Aa8 H (La H p i);have k:=λj=>VQ H p (i:=i) (j:=j);generalize Z:La H p i=x at *;have r:x.up = []:=by
   have:=aJ List.length N;simp at this;exact this
  obtain⟨o,ag,al,e,I,y⟩:=K;have W:x.1.mode=.returning:=by rwa[S]
  rw[←S,←u]at y;rw[←S]at I;obtain⟨a1,a6⟩:=g.last r W e I;have T:Ma (x.w.at (P1 H x)) L (Gs P (results e x.1.tmps) (x.w.at (P1 H x))):=λj l=>by
   rw[←a1]at l;rw[d,V,k j l]
   show tp _=x.w.tape _;rw[x.tape];rfl
  have f:=Wr (P:=P) (results e x.1.tmps) (x.w.at (P1 H x)) L ⟨t.1,t.os,t.output⟩ T;cases s:(results e x.1.tmps).run P (x.w.at (P1 H x)) with
  | halt h c=>
   rw[s]at f;obtain⟨h',b,q⟩:=f
   grind
  | ok an c=>
   rw[s]at f;obtain⟨b,q,D,z,m,_⟩:=f;rw[y]at q;injection q with ae X;subst ae X;exact a6 val c s (O val c L D (m.trans x.tape) (by rwa[u]))
 | succ n ih=>
  intro i L Y t d V;have g:=Aa8 H (La H p i);have a7:RF H (La H p i)=La H p (i+1):=iI;have A:posOf H p (i+1)=posOf H p i+BL H (La H p i):=iI;have k:=λj=>VQ H p (i:=i) (j:=j);generalize Z:La H p i=x at *;by_cases Q:x.up = []/\x.1.mode=.returning
  ·obtain⟨r,o⟩:=Q;rw[r]at Y;exact NN x.4 o n L U a Y
  ·obtain⟨a8,aa⟩:=g.1 Q;have T:Ma (x.w.at (P1 H x)) L (BL H x):=λj l=>by
    rw[d,V,k j l]
    show tp _=x.w.tape _;rw[x.tape];rfl
   cases a8 L ⟨t.1,t.os,t.output⟩ T with
   | bad ao b h=>exact runN_ended h Y
   | panic ab b h=>
    obtain⟨ad,ec⟩:=raise_mode x.1 ab;rw[ec]at h;obtain⟨B,M⟩:=RP x.up x.1 ad x.4.defers x.4.fn (λE F=>⟨(x.5 E F).1.defers,(x.5 E F).1.fn⟩) n b U a [Lb P] (U8 h Y);rw[K.1]at M;cases M
   | go af ah c b ai aj q I r C m z vd=>
    obtain⟨S,N,u⟩:=aa af ah c aj ai I r (m.trans x.tape);rw[a7]at S N u;refine ih (i+1) b ?_ ?_ ?_ ?_
    ·rw[S,N];exact U8 q Y
    ·rwa[u]
    ·rw[z,d]
    ·rw[vd,V,A]
end
def Aj4(g:TS P S){f}(I:S f){w}(Q:r w)(D:Ko J w)(K:Pk J w.1.size){a:gY}(j:S.reg f (w8 P f a .normal).tmps){R:Ending->y->Prop}(d:∀c v,¬R (.panicked c) v)(N:∀v,¬R .outgrown v)(H:∀v,Twin w v->Calls P f a v R)(F:∀val B U,Twin B U->B.tape=w.tape->R (.returned val) U->EV P main J Stop (G (c0.finish val) cs0) B):Fw P main J Stop (G (w8 P f a .normal) (c0::cs0)) w:=by
 refine cH λO=>?_
 let p:Yz P S main J Stop c0 cs0 w.tape:=⟨w8 P f a .normal,[],w,(AD g I a j).1,(λ_ h=>by cases h),Q,D,K,iI,O⟩
 have ⟨e,U,X,b,i,_,m⟩:=H { w with tape:=JG g p,drawn:=0 } ⟨rfl,rfl,rfl⟩ [Lb P];cases e with
 |panicked k=>exact d k U b
 |outgrown=>exact N U b
 |returned val=>
  have ⟨n,z⟩:=i;exact YA g p m b (λval B v l E Y=>F val B v l E Y) n 0 _ z ⟨iI,iI,iI⟩ iI iI
end
def Tree.Sub(s:Tree):Tree->Prop
 |.leaf=>False
 |.node f=>∃d,s=f d
def Tree.wf:WellFounded Tree.Sub:=⟨λt=>by
 induction t with
 |leaf=>exact⟨_,λs h=>h.elim⟩
 |node f O=>exact⟨_,λs⟨d,h⟩=>h▸O d⟩⟩
def Bw(n:Z)(a:Act):Act:=⟨a.tmps.map (Az n),a.defers.map (O5 n)⟩
def Gn(n)(b:N)(a k):Bj n (b.at a k)=b.at (Bw n a) (k.map (Df n)):=iI
def Hb{G}(p:n.Fix G)(a x)(h:Eh G x=km):(Bw n a).eval x=Az n (a.eval x):=by
 have:=P2 p ((default:N).at a []) ((default:N).at (Bw n a) []) iI x h
 rwa[xg,xg]at this
section
variable (P:im) (d:Bool) (J:gW) (g:vr->y->Prop)
def Vk(b:N)(k:List pf)(z:List N):uf->Act->y->Prop
 |.normal,a,w=>EV P d J g (G (b.at a k) z) w
 |.exit id,a,w=>∃k',exitTo id k=lj k'/\EV P d J g (G (b.at a k') z) w
 |.ret,a,w=>∀todo,EV P d J g (G { b.at a todo with mode:=.returning } z) w
 |_,_,_=>False
def Hp(fn:x8)(c:sf)(Q:uf->Act->y->Prop)(a:Act)(w:y):Prop:=
 ∀b(k:List pf)z,b.fn=fn->b.kind=.normal->(∀e a' w',Q e a' w'->Vk P d J g b k z e a' w')->EV P d J g (G (b.at a (.code c::k)) z) w
def opsV(fn:x8)(ops:Array ox)(l:hZ)(Q:uf->Act->y->Prop)(a:Act)(w:y):Prop:=
 ∀b(k:List pf)z,b.fn=fn->b.kind=.normal->(∀e a' w',Q e a' w'->Vk P d J g b k z e a' w')->EV P d J g (G (b.at a (.inRegion ops l::k)) z) w
def Bg(f:x8)(args:gY)(w:gk)(PostF:iA):Prop:=
 ∃fn c,P.funcs[f]? = lj fn∧(fn.name == "runtime.NumGoroutine")=sd∧fn.body=lj c∧∀fr cs,fr.mode=.run→(∀v w',PostF v w'→EV P d J g (G (fr.finish v) cs) w') →
  EV P d J g (G ((base f).at { tmps:=args++jj (fn.7 - args.size) qp,defers:=[] } [.code c]) (fr :: cs)) w
end
section
variable {P:im} {J:gW} {d:x8} {a:Act}
def EV.ctl(D:EV P main J F g' v)(Y:h.status=.running)(I:g'.status=.running)(a:∀n(w:y),n.Fix P.globals.size->o1 P main (Bn n h) w=.go (Bn n g') w):=
 EV.step Y λz d=>⟨g',v.at d,FL I (show r (v.at d) from z) a,D.at d⟩
def EV.ctlA{b:N}{l q}(D:EV P main J F (G (b.at l q) z) v)(h:∀n(cs:List N)w,n.Fix P.globals.size->o1 P main (G (b.at (Bw n a) (k.map (Df n))) cs) w=.go (G (b.at (Bw n l) (q.map (Df n))) cs) w):EV P main J F (G (b.at a k) z) v:=
 EV.ctl D iI iI λn w p=>h n _ w p
def Vk.push{b x e}(Z:x.plain=km)(N:e≠.normal)(h:Vk P main J F b k z e a w):Vk P main J F b (x::k) z e a w:=by
 cases e with
 |normal=>exact absurd iI N
 |exit n=>have ⟨q,E,G⟩:=h;exact⟨q,by cases x<;>simp_all[exitTo,Item.plain],G⟩
 |ret=>exact h
 |goto l=>exact h
 |panic j=>exact h
 |outgrown=>exact h
def Da{b:uf->Act->y->Prop}(h:Hp P main J F d c Q a w)(f:∀e a w,Q e a w->b e a w):Hp P main J F d c b a w:=
 λg k z D E M=>h g k z D E λe l B q=>M e l B (f _ _ _ q)
def B6(h:Q .normal a w):Hp P main J F d .skip Q a w:=λb k z _ _ M=>EV.ctlA (M _ _ _ h) λn cs w _=>stepG_skip
def Dt(h:Q .ret a w):Hp P main J F d .ret Q a w:=λb k z _ _ M=>EV.ctl (M _ _ _ h (.code .ret::k)) iI iI λn w _=>stepG_ret' (a:=Bw n a)
def Lc(h:Q (.exit b) a w):Hp P main J F d (.exit b) Q a w:=λe k z _ _ M=>by
 have ⟨q,c,G⟩:=M _ _ _ h;exact EV.ctlA G λn cs w _=>stepG_exit (by rw[Oq,c];rfl)
def A1(next:Act->y->Prop)(Q:uf->Act->y->Prop):uf->Act->y->Prop
 |.normal,a,w=>next a w
 |e,a,w=>Q e a w
def Aw{x y}(h:Hp P main J F d x (A1 (Hp P main J F d y Q) Q) a w):Hp P main J F d (.seq x y) Q a w:=by
 intro b k z D E M;refine EV.ctlA (h b (.code y::k) z D E λe c B q=>?_) λn cs w _=>stepG_seq;cases e with
 |normal=>exact q b k z D E M
 |exit f=>exact(M _ _ _ q).push iI Ad
 |ret=>exact(M _ _ _ q).push iI Ad
 |goto l=>exact M _ _ _ q
 |panic j=>exact M _ _ _ q
 |outgrown=>exact M _ _ _ q
def A3{c x y t}(M:a.eval c=.bool t)(h:Hp P main J F d (if t then x else y) Q a w)(E:Eh P.globals.size c=true:=by rfl):Hp P main J F d (.cond c x y) Q a w:=
 λb k z D e f=>EV.ctlA (h b k z D e f) λn cs w p=>stepG_cond (by rw[Hb p a c E,M];simp)
def As(id:Nat)(Q:uf->Act->y->Prop):uf->Act->y->Prop
 |.exit i,a,w=>if i=id then Q .normal a w else Q (.exit i) a w
 |e,a,w=>Q e a w
def Dr(h:Hp P main J F d c (As b Q) a w):Hp P main J F d (.block b c) Q a w:=by
 intro e k z D E M;refine EV.ctlA (h e (.inBlock b::k) z D E λf m B q=>?_) λn cs w _=>stepG_block;cases f with
 |normal=>exact EV.ctlA (M _ _ _ q) λn cs w _=>stepG_inBlock
 |exit i=>
  simp only[As]at q;by_cases V:i=b
  ·rw[aL V]at q;exact⟨k,by simp[exitTo,V],M _ _ _ q⟩
  ·rw[aM V]at q;have ⟨g,j,N⟩:=M _ _ _ q;exact⟨g,by simp[exitTo,dG V,j],N⟩
 |ret=>exact M _ _ _ q
 |goto l=>exact M _ _ _ q
 |panic o=>exact M _ _ _ q
 |outgrown=>exact M _ _ _ q
def Mv{I:Nat->Act->y->Prop}(Y:∀n a w,I n a w->Hp P main J F d c (A1 (λa w=>∃m,m<n/\I m a w) Q) a w){n}(h:I n a w):Hp P main J F d (.loop c) Q a w:=by
 intro b k z D E M
 suffices H:∀n a w,I n a w->EV P main J F (G (b.at a (.code c::.inLoop c::k)) z) w from EV.ctlA (H n a w h) λn cs w _=>stepG_loop
 intro n
 induction n using Nat.strongRecOn with
 |_ n O=>
  intro a w h;refine Y n a w h b _ z D E λe g B q=>?_;cases e with
  |normal=>
   have ⟨m,L,o⟩:=q;exact EV.ctlA (O m L g B o) λn cs w _=>stepG_inLoop
  |exit f=>exact(M _ _ _ q).push iI Ad
  |ret=>exact(M _ _ _ q).push iI Ad
  |goto l=>exact M _ _ _ q
  |panic j=>exact M _ _ _ q
  |outgrown=>exact M _ _ _ q
def Pc{g}(h:opsV P main J F d g (yo g.size) Q a w):Hp P main J F d (.region b g sd) Q a w:=
 λc k z D E M=>EV.ctlA (h c k z D E M) λn cs w _=>stepG_region
def Au{g}(h:Q .normal a w):opsV P main J F d g [] Q a w:=
 λb k z D E M=>EV.ctlA (M _ _ _ h) λn cs w _=>stepG_region_end
def Nt(n a d v):(Bw n a).put d (Az n v)=Bw n (a.put d v):=by
 cases d with
 |none=>rfl
 |some d=>show Act.mk ((a.tmps.map (Az n)).setIfInBounds d (Az n v)) _=Act.mk _ _;rw[Hn];rfl
def Bt{g}(O:g[i]?=lj o)(W:Region.wanted o (iu g a.tmps)=sd)(h:opsV P main J F d g l Q (a.put o.dst qp) w):opsV P main J F d g (i::l) Q a w:=
 λb k z D E M=>EV.ctlA (h b k z D E M) λn cs w _=>by
  have:=stepG_unwanted (P:=P) (main:=main) (b:=b) (rest:=l) (k:=k.map (Df n)) (cs:=cs) (w:=w) O (by rwa[show(Bw n a).tmps=a.tmps.map _ from iI,E1]);have e:=Nt n a o.dst qp;rw[Eu]at e
  rwa[e]at this
def Yields(P:im)(s:Sem r8)(w:y)(x:uo)(w':y):Prop:=s.run P w=.ok (.value x) w'∨(s.run P w=.ok .skip w'/\x=qp)
def RL{g c e}(O:g[i]?=lj o)(W:Region.wanted o (iu g a.tmps)=km)(Y:∀n w,n.Fix P.globals.size->(execOp (Bw n a).eval o).run P w=.ok (.enter f (c.map (Az n))) w)(N:∀n w,(execOp (Bw n a).eval o).events P w #[]=#[])(H:Bg P main J F f c w e)(j:∀v B,e v B->opsV P main J F d g l Q (a.put o.dst v) B):opsV P main J F d g (i::l) Q a w:=by
 intro b k z D E M;obtain⟨r,u,C,s,m,h⟩:=H;have t:∀v,(b.at a (.inRegion g (i::l)::k)).finish v=b.at (a.put o.dst v) (.inRegion g l::k):=λv=>by rw[Frame.finish_at,O];rfl
 refine EV.ctl (h (b.at a (.inRegion g (i::l)::k)) z iI λv B q=>by rw[t];exact j v B q b k z D E M) iI iI λn w p=>?_
 rw[Ep,Gn];have U:iu g (Bw n a).tmps=iu g a.tmps:=E1 g a.tmps;have:=stepG_enter (P:=P) (main:=main) (b:=b) (a:=Bw n a) (k:=k.map (Df n)) (cs:=z.map (Bj n)) (rest:=l) O (by rwa[U]) (by rw[E];decide) (Y n w p);rw[show oo (Df n) (.inRegion g (i::l)::k)=.inRegion g (i::l)::k.map (Df n) from iI,this,J9,enter_at _ C m];unfold listed;rw[N n w,seen_none]
 rfl
def EL{g args m b}(O:g[i]?=lj o)(W:Region.wanted o (iu g a.tmps)=km)(T:o.op=.call { callee:=.value (.func f),args,argTypes:=m })(H:Bg P main J F f (args.map a.eval) w b)(j:∀v B,b v B->opsV P main J F d g l Q (a.put o.dst v) B)(E:args.all (Eh P.globals.size)=km:=by rfl):opsV P main J F d g (i::l) Q a w:=by
 have ⟨r,c,C,s,h,_⟩:=H;have e:r.body.isNone=sd:=Aa1;refine RL O W (λn w p=>?_) (λn w=>events_call_body T C s e _) H j;rw[run_call_body T C s e,Jg (λx Z=>Hb p a x Z) args E]
def Bl{K}{b:gY}{d:uo→gk→Prop}{R:Array uo→uo}(I:P.funcs[f]? = lj K)(s:(K.name == "runtime.NumGoroutine")=sd)(V:K.body=lj c)(k:∀tmps w,(results K tmps).run P w=.ok (R tmps) w)(r:∀tmps w,(results K tmps).events P w #[]=#[])(m:Hp P main J F f c (λe a B=>(e=.normal∨e=.ret)∧a.defers = []∧d (R a.tmps) B) { tmps:=b++jj (K.ntmps - b.size) qp,defers:=[] } w):Bg P main J F f b w d:=by
 refine⟨K,c,I,s,V,λX cs L l=>?_⟩;have j:∀h(a:Act)B,a.defers = []->d _ B->EV P main J F (G { (base f).at a h with mode:=.returning } (X :: cs)) B:=λh a B v Q=>
  EV.step iI λz i=>⟨_,B.at i,stepR_ret iI v iI I z (k _ _) (by rw[r];simp),(l _ _ Q).at i⟩
 refine m _ [] _ iI iI λe g B⟨N,v,Q⟩=>?_;rcases N with rfl|rfl
 ·exact EV.ctl (j [] g B v Q) iI iI λn H _=>stepG_end (a:=Bw n g)
 ·exact λh=>j h g B v Q
end
section
variable {P:im}
structure Dv where
 at_:x8->List Nat
 fn:Option x8
def Dv.cv(D:Dv):uo:=match D.fn with|some g=>.func (.func g) #[] #[]|none=>qp
def RS(D:Dv)(fn f:x8)(args:Array Operand):Bool:=
 (D.at_ f).all λj=>match args[j]? with
  |some (.tmp t)=>(D.at_ fn).contains t
  |some (.func g)=>D.fn==lj g
  |some _=>sd
  |none=>km
def Ab3(D:Dv)(fn:x8)(o:ox):Bool:=match o.dst with
 |some d=>!(D.at_ fn).contains d||(match o.op with|.move (.tmp t)=>(D.at_ fn).contains t|_=>sd)
 |none=>km
def opS(P:im)(S:x8->Bool)(D:Dv)(fn:x8)(o:ox):Bool:=Ab3 D fn o&&match o.op with
 |.call c=>(match c.callee with
  |.value (.tmp t)=>c.args.all (Eh P.globals.size)&&(D.at_ fn).contains t
  |.value (.func f)=>opR P S o&&(DR P f||RS D fn f c.args)
  |_=>opR P S o)
 |_=>opR P S o
def Xs(D:Dv)(f:x8)(tmps:gY):Prop:=∀j,j∈D.at_ f->tmps.getD j qp=D.cv∨tmps.getD j qp=qp
def Iy(P:im)(S:x8->Bool)(D:Dv)(fn:x8):sf->Bool
 |.skip=>km
 |.region _ ops _=>ops.all (opS P S D fn)
 |.seq a b=>Iy P S D fn a&&Iy P S D fn b
 |.cond c a b=>(Eh P.globals.size c&&Iy P S D fn a)&&Iy P S D fn b
 |.block _ b=>Iy P S D fn b
 |.loop b=>Iy P S D fn b
 |.rangeFunc _ _ _ _=>sd
 |.exit _=>km
 |.scope b=>Iy P S D fn b
 |.label _=>km
 |.goto _=>km
 |.ret=>km
 |.refuse _=>sd
def Yq{D}(h:Ab3 D u o=km)(a v)(Y:Xs D u a)(q:∀t,o.op=.move (.tmp t)->v=qp∨v=a.getD t qp):Xs D u (He o.dst v a):=by
 intro j l;have F:=Y j l;unfold Ab3 at h;unfold He;cases y:o.dst with
 |none=>exact F
 |some d=>
  rw[y]at h;dsimp only at h⊢;rw[cE]at F⊢;by_cases f:d=j
  ·subst f;have C:v=D.cv∨v=qp:=by
    rw[eT]at h;rcases h with h|h
    ·simp[l]at h
    ·cases O:o.op with
     |move x=>
      rw[O]at h;cases x with
      |tmp t=>
       rcases q t O with e|e
       ·exact .inr e
       ·rw[e];exact Y t Aan
      |_=>cases h
     |_=>rw[O]at h;cases h
   rw[bY,aL iI]
   grind
  grind
def Ajq(S:x8->Bool)(D:Dv):Prop:=∀g,D.fn=lj g->S g=km/\D.at_ g = []
def Aec{D g a}(h:RS D u g a=km)(c:Xs D u X.tmps):Xs D g (w8 P g (a.map X.eval) .normal).tmps:=by
 intro j l;unfold RS at h;have C:=cZ.1 h j l;have F:∃b,(w8 P g (a.map X.eval) .normal).tmps=a.map X.eval++b/\∀k,b.getD k qp=qp:=by
  unfold w8;cases G:P.funcs[g]? with
  |none=>grind
  |some O=>exact⟨_,iI,λk=>by rw[cE,Array.getElem?_replicate];split<;>rfl⟩
 obtain⟨b,S,L⟩:=F;rw[S];rw[cE];cases d:a[j]? with
 |none=>
  rw[eE (by simpa using(by simpa using d))]
  right
  have:=L (j - (a.map X.eval).size)
  rwa[cE]at this
 |some x=>
  rw[dJ (by simpa using((aG.1 d).1)),aN,d];rw[d]at C;cases x with
  |tmp t=>exact c t (by simpa using C)
  |func r=>
   left
   have:D.fn=lj r:=by simpa using C
   unfold Dv.cv;rw[this]
   rfl
  |_=>cases C
def N3(P:im)(s:Sem r8):Prop:=∀v y v',s.run P v=.ok y v'->(∃x,y=.value x)∨y=.skip
def N3.bind{s}{k:a->Sem r8}(h:∀b,N3 P (k b)):N3 P (s >>= k):=λv x U Y=>by
 rw[Sem.run_bind]at Y;cases C:s.run P v with
 |halt _ _=>simp_all
 |ok c t=>rw[C]at Y;exact h c t x U Y
def N3.value(x):N3 P (wy (.value x)):=λv y U Y=>by cases Y;exact .inl ⟨x,iI⟩
def N3.skip:N3 P (wy .skip):=λv y U Y=>by cases Y;exact .inr iI
def N3.nev(h:Nev P s):N3 P s:=λv y U Y=>absurd Y (h.never v y U)
def N3.okN{S}(h:N3 P s){y}(Y:s.run P v=.ok y U):OkN P S y:=by
 rcases h v y U Y with⟨x,rfl⟩|rfl<;>trivial
def Adt(N:Hr P){D}(H:∀f,S f=km→∃fn c,P.funcs[f]? = lj fn∧(fn.name == "runtime.NumGoroutine")=sd∧fn.body=lj c)(s:∀f,S f=km→W f)(E:Ajq S D)(F:opS P S D fn o=km):Oi P ⟨W,Xs D⟩ fn o:=by
 unfold opS at F;rw[aU]at F;obtain⟨b,h⟩:=F;have k:opR P S o=km->∀n(X:qq),n.Fix P.globals.size->Rf P n (Kz n) (execOp X.eval o) (execOp (Bj n X).eval o):=λY n X p=>
  Aox p N H (λg=>rfl) (λv=>rfl) (λx Z=>P2 p X (Bj n X) iI x Z) Y
 have a7:∀(X:qq)(c:Call)(g:x8),S g=km->(zo g (#[]++c.args.map X.eval++#[]):Sem r8)=zo g (c.args.map X.eval):=λX c g _=>by rw[fP,eD]
 have j:∀(g:x8)(V:gY)(v:gk)(y:r8)(U:gk),S g=km->(zo g V).run P v=.ok y U->y=.enter g V:=λg V v y U G Y=>by
  obtain⟨O,cd,C,J,A⟩:=H g G;have i:O.body.isNone=sd:=by rw[A];rfl
  unfold zo at Y;have I:(match P.funcs[g]? with|none=>_|some fn=>_:Sem r8).run P v=.ok y U:=Y;rw[C]at I;simp only[J,i]at I;cases I
  rfl
 have ext:∀(g:x8)(V:gY)(v:gk)(y:r8)(U:gk),DR P g=km->(zo g V).run P v=.ok y U->(∃x,y=.value x)∨y=.skip:=λg V v y U G Y=>by
  unfold DR at G;unfold zo at Y;cases C:P.funcs[g]? with
  | none=>rw[C]at G;cases G
  | some O=>
   rw[C]at G;simp only[aU]at G;obtain⟨⟨i,K⟩,L⟩:=G;obtain⟨R,F⟩:=R8;obtain⟨e1,e2,e,e3,_⟩:=UK (P:=P) (n:=R) (H:=λ_=>False) (F _) (fn:=O) (by simpa using K) Aav;have I:(match P.funcs[g]? with|none=>_|some fn=>_:Sem r8).run P v=.ok y U:=Y;rw[C]at I;simp only[e2,i,e1,e3,bQ]at I;have u:N3 P (Go.mark (.extern g) >>= λ_=>e V >>= λx=>(wy (Next.value x):Sem r8)):=N3.bind λ_=>N3.bind λx=>N3.value x;exact u v y U I
 cases T:o.op with
 | call c=>
  rw[T]at h;dsimp only at h;have Q:∀l,execOp l o=resolve l c o.type >>= λd=>lx d.target d.args:=λl=>by unfold execOp;rw[T]
  cases M:c.callee with
  | builtin w=>
   rw[M]at h;refine⟨λn X p _=>k h n X p,λX v x U _ q Y=>N3.okN ?_ Y,Yq b⟩;rw[Q];unfold resolve;rw[M]
   show N3 P (lx (.builtin w c.argTypes o.type _) _);have i:Ry P S c=km:=by unfold opR at h;rwa[T]at h
   unfold Ry at i;rw[M]at i;unfold lx builtin;cases w <;> first
    | (simp at i;done)
    | exact N3.bind λx=>N3.value x
  | value f=>
   rw[M]at h;cases f with
   | func g=>
    dsimp only at h;rw[aU]at h;obtain⟨h,B⟩:=h;refine⟨λn X p _=>k h n X p,λX v x U a q Y=>?_,Yq b⟩;have i:Ry P S c=km:=by unfold opR at h;rwa[T]at h
    unfold Ry at i;rw[M,aU]at i;rw[Q]at Y;unfold resolve at Y;rw[M]at Y;have I:(zo g (#[]++c.args.map X.eval++#[])).run P v=.ok x U:=Y;rw[fP,eD]at I;by_cases G:S g=km
    ·rw[j g _ v x U G I];refine⟨s g G,?_⟩;rw[eT]at B;rcases B with he|B
     ·rcases ext g _ v x U he I with⟨y,r⟩|r <;> (rw[j g _ v x U G I]at r;cases r)
     ·exact Aec B a
    ·rcases ext g _ v x U (by simpa[G] using i.2) I with⟨y,rfl⟩|rfl <;> trivial
   | tmp t=>
    dsimp only at h;rw[aU]at h;obtain⟨ha,a1⟩:=h;have two:∀(X:qq),Xs D fn X.tmps->X.eval (.tmp t)=D.cv∨X.eval (.tmp t)=qp:=λX a=>a t (by simpa using a1);refine⟨λn X p a=>?_,λX v x U a q Y=>?_,Yq b⟩
    ·rw[Q,Q];unfold resolve;rw[M]
     show Rf P n (Kz n) (k9 (X.eval (.tmp t)) (c.args.map X.eval) >>= λd=>lx d.target d.args) (k9 ((Bj n X).eval (.tmp t)) (c.args.map (Bj n X).eval) >>= λd=>lx d.target d.args);rw[P2 p X (Bj n X) iI (.tmp t) iI,Jg (λx Z=>P2 p X (Bj n X) iI x Z) c.args ha];rcases two X a with e|e
     ·rw[e];unfold Dv.cv;cases m:D.fn with
      | none=>exact Rf.never (D7 (Cu iI trivial))
      | some g=>
       obtain⟨G,_⟩:=E g m;dsimp only;rw[show Az n (.func (.func g) #[] #[])=.func (.func g) #[] #[] by simp[Mq]];have u:=Xt (P:=P) (n:=n) p H g (c.args.map X.eval) (by simp[G])
       show Rf P n (Kz n) (zo g (#[]++c.args.map X.eval++#[])) (zo g (#[]++(c.args.map X.eval).map (Az n)++#[]));exact Ewc
     ·rw[e];exact Rf.never (D7 (Cu iI trivial))
    ·rw[Q]at Y;unfold resolve at Y;rw[M]at Y;have I:(k9 (X.eval (.tmp t)) (c.args.map X.eval) >>= λd=>lx d.target d.args).run P v=.ok x U:=Y;rcases two X a with e|e
     ·rw[e]at I;unfold Dv.cv at I;cases m:D.fn with
      | none=>rw[m]at I;cases I
      | some g=>
       obtain⟨G,a6⟩:=E g m;rw[m]at I;rw[j g _ v x U G I];exact⟨s g G,λa8 z=>by rw[a6]at z;cases z⟩
     ·rw[e]at I;cases I
   | _=>
       have i:Ry P S c=km:=(by unfold opR at h;rwa[T]at h);unfold Ry at i;rw[M]at i;simp at i
  | invoke aa nm=>
   rw[M]at h;have i:Ry P S c=km:=by unfold opR at h;rwa[T]at h
   unfold Ry at i;rw[M]at i;simp at i
 | _=>
  rw[T]at h;dsimp only at h;refine⟨λn X p _=>k h n X p,λX v x U _ q Y=>N3.okN ?_ Y,Yq b⟩;unfold opR at h;unfold execOp;rw[T]at h⊢;dsimp only at h⊢
  first
   | contradiction
   | exact N3.value _
   | exact N3.bind λx=>N3.value x
   | exact N3.bind λ_=>N3.value _
   | exact N3.bind λ_=>N3.skip
   | exact N3.bind λ_=>N3.bind λ_=>N3.value _
   | (
     split
     all_goals first
      | exact N3.nev (Jr _)
      | exact N3.value _
      | (
       split
       all_goals first
        | exact N3.nev (Jr _)
        | exact N3.value _
        | exact N3.bind λ_=>N3.bind λ_=>N3.bind λ_=>N3.value _
        | (
          refine N3.bind λ_=>N3.bind λ_=>?_;split
          ·exact N3.nev (D7 (Cu iI trivial))
          ·exact N3.value _)))
def Alc(N:Hr P){S D}(H:∀f,S f=km→∃u c,P.funcs[f]? = lj u∧(u.name == "runtime.NumGoroutine")=sd∧u.body=lj c)(e:∀f,S f=km→W f)(E:Ajq S D):∀{c},Iy P S D u c=km→OV P ⟨W,Xs D⟩ u c:=by
 intro c
 induction c with
 | region n d i=>
  intro h j o g;exact Adt N H e E (cU.1 h o (cF g))
 | seq a b I C=>intro h;simp only[Iy,aU]at h;exact⟨I h.1,C h.2⟩
 | cond c a b I C=>intro h;simp only[Iy,aU]at h;exact⟨⟨h.1.1,I h.1.2⟩,C h.2⟩
 | block n b O=>intro h;exact O h
 | loop b O=>intro h;exact O h
 | scope b O=>intro h;exact O h
 | rangeFunc f k a b I C=>intro h;cases h
 | refuse s=>intro h;cases h
 | _=>intro _;trivial
def Yj(P:im)(L:List x8)(D:Dv)(f:x8):Bool:=
 match P.funcs[f]? with
 | some fn=>!(fn.name == "runtime.NumGoroutine") && (match fn.body with|some c=>Iy P (L.contains ·) D f c|none=>sd)
 | none=>sd
def noD:Dv:=⟨λ_=>[],jh⟩
def QO(P:im)(L:List x8)(f:x8):Bool:=Yj P L noD f
def UG(L:List x8)(D:Dv):Env:=⟨(·∈L),Xs D⟩
def env(L:List x8):Env:=UG L noD
def A6(f)(a:gY):(env L).reg f a:=λj l=>by cases l
def VB(N:Hr P){D}(E:Ajq (L.contains ·) D)(h:∀f,f∈L->Yj P L D f=km):TS P (UG L D):=by
 have n:∀f,f∈L→∃u c,P.funcs[f]? = lj u∧(u.name == "runtime.NumGoroutine")=sd∧u.body=lj c∧Iy P (L.contains ·) D f c=km:=λf I=>by
  have:=h f I;unfold Yj at this;cases C:P.funcs[f]? with
  | none=>rw[C]at this;cases this
  | some u=>
   grind
 intro f I;obtain⟨u,c,C,J,T,q⟩:=n f I;refine⟨u,c,C,J,T,Alc N (S:=(L.contains ·)) (λg G=>?_) (λg G=>by simpa using G) E q⟩
 grind
def Adu(N:Hr P)(h:∀f,f∈L->QO P L f=km):TS P (env L):=VB N (λg e=>HL) h
end
def Fw.then{P a J}{b c:vr->y->Prop}{g}(h:Fw P a J b g v)(z:∀g v,b g v->EV P a J c g v):Fw P a J c g v:=by
 obtain⟨T,h⟩:=h
 induction T generalizing g v with
 |leaf=>exact z g v (h.2 v.drawn) h.1
 |node f O=>
  have ⟨Q,Y,h⟩:=h;refine Fw.step Q Y λd=>?_;have ⟨R,U,C,e⟩:=h d
  grind
def Sh:Obj->Obj
 |.cells _ e fz=>.cells #[] e fz
 |o=>o
open Classical in
noncomputable def Bb(Bs:gV)(w:y):y:={ w with heap:=w.1.mapIdx λi o=>if Bs i then Sh o else o }
open Classical in
noncomputable def Cb(Bs:gV)(w u:y):y:={ u with heap:=u.1.mapIdx λi o=>if Bs i then(w.1[i]?).getD o else o }
def RowsIn(Bs:gV)(w:y):Prop:=∀i,Bs i->∃c e fz,w.1[i]?=lj (.cells c e fz)
structure De(Bs:gV)(w u:gk):Prop where
 blank:∀i,Bs i->∃c e fz,w.1[i]?=lj (.cells c e fz)/\u.1[i]?=lj (.cells #[] e fz)
section
variable {u:y}
open Classical in
theorem Q7(i):(Cb Bs w u).1[i]?=(u.1[i]?).map λo=>if Bs i then(w.1[i]?).getD o else o:=by
 unfold Cb;simp
def Dy(h:De Bs w u)(V:Bs i):(Cb Bs w u).1[i]?=w.1[i]?:=by
 have ⟨c,e,b,C,J⟩:=h.blank i V;rw[Q7,J,aI,aL V,C];rfl
def By(V:¬Bs i):(Cb Bs w u).1[i]?=u.1[i]?:=by
 rw[Q7]
 grind
def Bh:(Cb Bs w u).1.size=iL u.1:=by unfold Cb;simp
def Bz(i):(Bb Bs w).1[i]?=(w.1[i]?).map λo=>@ite _ (Bs i) (Classical.propDecidable _) (Sh o) o:=by
 unfold Bb;simp
def Fy(h:RowsIn Bs w):De Bs w (Bb Bs w):=⟨λi V=>by
 have ⟨c,e,a,C⟩:=h i V;exact⟨c,e,a,C,by rw[Bz,C,aI,aL V];rfl⟩⟩
def I3(h:RowsIn Bs w):Cb Bs w (Bb Bs w)=w:=by
 have e:(Cb Bs w (Bb Bs w)).1=w.heap:=by
  apply bX;intro i;by_cases V:Bs i
  ·exact Dy (Fy h) V
  ·rw[By V,Bz]
   grind
 cases w;simp only[Cb,World.mk.injEq]at e⊢;exact⟨e,iI,iI,iI,iI⟩
def De.at(h:De Bs w u)(d):De Bs w (u.at d):=⟨h.blank⟩
def De.frame(h:De Bs w u){X}(f:Dd u O X):De Bs w O:=⟨λi V=>by
 have ⟨c,e,a,C,J⟩:=h.blank i V;have ⟨B,T,q⟩:=f.row i _ _ _ J
 grind⟩
def Tv{a}(h:¬Bs a.block):(Cb Bs w u).cell? a=u.cell? a:=by unfold ur;rw[By h]
def Yf(h:De Bs w u){a}(V:Bs a.block):(Cb Bs w u).cell? a=w.cell? a:=by unfold ur;rw[Dy h V]
def Yi(h:De Bs w u){a}(V:Bs a.block):u.cell? a=jh:=by
 have ⟨c,e,b,C,J⟩:=h.blank _ V;unfold ur;rw[J];simp
def Kv(h:De Bs w u){e}(N:Hk u e):(∀a,e.loc=.cell a->¬Bs a.block)/\(∀r,e.loc=.obj r->¬Bs r)/\Hk (Cb Bs w u) e:=by
 have ⟨l,wr,Y⟩:=e;cases l with
 |cell a=>
  have ⟨x,Z⟩:=N;have z:¬Bs a.block:=λV=>by rw[Yi h V]at Z;cases Z
  exact⟨λb e=>(by cases e;exact z),λr e=>HL,x,(by rwa[Tv z])⟩
 |obj r=>
  have ⟨o,O,M⟩:=N;have z:¬Bs r:=λV=>by
   have ⟨c,e,d,C,J⟩:=h.blank _ V;rw[J]at O;cases O;exact M.1 _ _ _ iI
  exact⟨λb e=>HL,λq e=>(by cases e;exact z),o,(by rwa[By z]),M⟩
 |mark m=>exact⟨λb e=>HL,λq e=>HL,N⟩
 |output=>exact N.elim
 |goroutines=>exact N.elim
def H0(W:RowsIn Bs w)(h:De Bs w u)(Q:r u):r (Cb Bs w u):=λi o O=>by
 by_cases V:Bs i
 ·rw[Dy h V]at O;have ⟨c,e,a,C⟩:=W i V;rw[C]at O;cases O;trivial
 ·rw[By V]at O;exact Q i o O
def Sr(h:De Bs w u){X}(f:Dd u O X):Dd (Cb Bs w u) (Cb Bs w O) X:=by
 have P:=h.frame f;refine⟨by rw[Bh,Bh];exact f.size,λb d z=>?_,λr o a M z=>?_,λr c e g Y=>?_,λr o a M=>?_,f.tape,f.os,f.output⟩
 ·by_cases V:Bs b.block
  ·rw[Yf h V,Yf P V]
  ·rw[Tv V,Tv V];exact f.cell b (by rwa[Bh]at d) z
 ·by_cases V:Bs r
  ·rw[Dy h V]at a;rwa[Dy P V]
  ·rw[By V]at a⊢;exact f.obj r o a M z
 ·by_cases V:Bs r
  ·rw[Dy h V]at Y;rw[Dy P V];exact⟨c,Y,iI⟩
  ·rw[By V]at Y⊢;exact f.row r c e g Y
 ·by_cases V:Bs r
  ·rw[Dy h V]at a;rw[Dy P V];grind
  ·rw[By V]at a⊢;exact f.5 r o a M
end
section
variable {P:im} {J:gW} {u:y}
def Sm.hide{x}(h:De Bs w u)(s:Sm n t J (Cb Bs w u) x):Sm n t J u x:=by
 refine⟨by have:=s.top;rwa[Bh]at this,by have:=s.lt;rwa[Bh]at this,by have:=s.out;rwa[Bh]at this,λi o O=>?_,s.tape,s.drawn,s.os,s.output⟩;by_cases V:Bs i
 ·obtain⟨c,e,d,C,b⟩:=h.blank i V;rw[b]at O;cases O;obtain⟨I,G,K⟩:=s.4 i _ ((Dy h V).trans C);exact E90
 ·exact s.4 i o (by rwa[By V])
def Sm.show{x d}(h:De Bs w u)(g:De Bs w O)(s:Sm n t J (Cb Bs w u) x)(v:Sm n t J O d){L:Array oy}(f:Dd x d (L.map (Ky n)))(c:∀e∈L,Hk O e):Sm n t J (Cb Bs w O) d:=by
 refine⟨by have:=v.top;rwa[←Bh (Bs:=Bs) (w:=w)]at this,by have:=v.lt;rwa[←Bh (Bs:=Bs) (w:=w)]at this,by have:=v.out;rwa[←Bh (Bs:=Bs) (w:=w)]at this,λi o b=>?_,v.tape,v.drawn,v.os,v.output⟩;by_cases V:Bs i
 ·rw[Dy g V]at b;obtain⟨E,e,p,C,_⟩:=h.blank i V;rw[C]at b;cases b;obtain⟨I,G,K⟩:=s.4 i _ ((Dy h V).trans C);have P:∃B,I=.cells B e p:=by
   rcases K with rfl|⟨Q,B,S,R,a,rfl,_⟩|⟨_,z,_⟩|⟨B,S,R,a,rfl⟩
   ·exact⟨_,iI⟩
   ·grind
   ·exact absurd iI (z _ _ _)
   grind
  obtain⟨B,rfl⟩:=P;obtain⟨k,q,N⟩:=f.row _ _ _ _ G;have:k=B:=bX λj=>by
   have:=f.cell ⟨sh n i,j,jh⟩ (aG.1 G).1 (λH r _ D=>by
    obtain⟨F,m,rfl⟩:=Array.mem_map.1 r;obtain⟨y,Z,_⟩:=Kv g (c F m);obtain⟨l,wr,Y⟩:=F;cases l with
    |cell A=>
     simp only[Ky,Ge,Loc.cell.injEq,Ei,Addr.mk.injEq]at D;exact y A iI (by rwa[Gq D.1])
    |_=>cases D)
   simpa[ur,q,G] using this
  grind
 ·rw[By V]at b;exact v.4 i o b
def Ha.over(W:RowsIn Bs w)(d:De Bs w u)(s:Ha P main J h u g' O):Ha P main J h (Cb Bs w u) g' (Cb Bs w O)/\De Bs w O:=by
 have ⟨X,a,K⟩:=s.frame;have f:=d.frame a;refine⟨⟨s.run,H0 W f s.plain,⟨X,Sr d a,λb N=>⟨(Kv f (K b N).1).2.2,(K b N).2⟩⟩,λn t x p g Z=>?_⟩,f⟩;rw[Bh]at g;have ⟨i,G,L,C,j,T,q,z⟩:=s.all n t x p g (Z.hide d);exact⟨i,G,L,C,Z.show d f j T λb N=>(q b N).1,T,λb N=>⟨(Kv f (q b N).1).2.2,(q b N).2⟩,z⟩
def Fw.over{a:vr->y->Prop}(W:RowsIn Bs w)(b:De Bs w u)(I:Fw P main J a h u):Fw P main J (λh x=>∃u,x=Cb Bs w u/\De Bs w u/\a h u) h (Cb Bs w u):=by
 obtain⟨T,I⟩:=I
 induction T generalizing h u with
 |leaf=>exact⟨.leaf,H0 W b I.1,λd=>⟨u.at d,iI,b.at d,I.2 d⟩⟩
 |node f O=>
  have ⟨Q,Y,I⟩:=I;refine Fw.step (H0 W b Q) Y λd=>?_;have ⟨g',U,C,c⟩:=I d;have ⟨e,q⟩:=C.over W (b.at d);exact⟨g',Cb Bs w U,e,O d q c⟩
def Na{S}(k:TS P S)(I:S f)(W:RowsIn Bs w)(D:Ko J (Bb Bs w))(K:Pk J w.1.size){a:gY}(j:S.reg f (w8 P f a .normal).tmps){R:Ending->y->Prop}(g:∀c v,¬R (.panicked c) v)(N:∀v,¬R .outgrown v)(H:∀v,Twin (Bb Bs w) v->Calls P f a v R):Bg P main J Stop f a w (λval x=>∃u U,x=Cb Bs w u/\De Bs w u/\Twin u U/\u.tape=w.tape/\R (.returned val) U):=by
 obtain⟨l,c,e,s,d,T⟩:=k f I;refine⟨l,c,e,s,d,λX cs L F Q=>?_⟩;have q:r (Bb Bs w):=λi o O=>by
  exact Ns6
 have C:(Bb Bs w).1.size=iL w.1:=by unfold Bb;simp
 have M:=Aj4 (main:=main) (Stop:=λh u=>∃val U,h=G (X.finish val) cs/\Twin u U/\u.tape=w.tape/\R (.returned val) U) (c0:=X) (cs0:=cs) k I q D (C▸K) j g N H
  (λval B U b E Y=>EV.stop λm=>⟨val,U,iI,⟨b.1,b.os,b.output⟩,E,Y⟩)
 rw[enter_at _ e d]at M;have O:=M.over W (Fy W);rw[I3 W]at O;refine O.then λh x⟨u,Z,n,val,U,p,b,E,Y⟩=>?_
 grind
end
def VN{β:Type}:ForInStep β->β
 |.yield x=>x
 |.done x=>x
def XO{b:Type}{Pr:a->Prop}{f:b->a->Option (ForInStep a)}(h:∀d c r,Pr c->f d c=lj r->Pr (VN r)):∀(l:List b)c r,Pr c->forIn l c f=lj r->Pr r:=by
 intro l
 induction l with
 |nil=>grind
 |cons d l O=>
  intro c r D Y;rw[fL]at Y;cases I:f d c with
  |none=>grind
  |some s=>
   rw[I]at Y;have:=h d c s D I;cases s with
   |yield x=>exact O x r this Y
   |done x=>simp at Y;subst Y;exact this
def X0(n:Z)(c:gY):Prop:=c.map (Az n)=c
def JV(n:Z)(i:me):Prop:=∀z,i.zero=lj z->Az n z=z
def DV{z}(h:Az n z=z):X0 n z.cells:=by
 unfold X0;rw[←Kc,h]
def QK{a:q9->Option me}(V:∀t i,a t=lj i->JV n i){L i}(h:Made.reckonStruct a L=lj i):JV n i:=by
 unfold Made.reckonStruct at h;simp only[dY,bM]at h;obtain⟨s,e,h⟩:=h;have N:∀c,s.2.2.2.2.2.2.2.1=lj c->X0 n c:=by
  rw[←eS]at e;refine XO (Pr:=λs:Array Field×Nat×Nat×Nat×Nat×Bool×Bool×Option (Array uo)×String=>∀c,s.2.2.2.2.2.2.2.1=lj c->X0 n c) (λf g r D Y=>?_) _ _ _ (by intro c M;simp at M;subst M;unfold X0;simp) e;simp only[bM]at Y;obtain⟨k,E,Y⟩:=Y;have b:∀q [Decidable q] c,(if q then jh else g.2.2.2.2.2.2.2.1 >>= λz=>k.zero >>= λy=>lj (z++y.cells))=lj c->X0 n c:=λq _ c M=>by
   split at M
   ·cases M
   ·cases N:g.2.2.2.2.2.2.2.1 with
    |none=>rw[N]at M;cases M
    |some z=>
     rw[N]at M;cases U:k.zero with
     |none=>rw[U]at M;cases M
     |some y=>
      rw[U]at M;obtain rfl:=aB M;unfold X0;rw[dC,D z N,DV (V _ k E y U)]
  have u:∀{x},lj (ForInStep.yield x)=lj r->(∀c,x.2.2.2.2.2.2.2.1=lj c->X0 n c)->∀c,(VN r).2.2.2.2.2.2.2.1=lj c->X0 n c:=λC J=>by
   obtain rfl:=aB C;exact J
  by_cases C:k.str.isEmpty=km
  ·simp[C]at Y
  ·by_cases J:f.4=km
   ·simp[C,J]at Y
   ·simp only[C,J,aR,bR]at Y;by_cases T:f.tag.isEmpty=km
    ·simp only[T,bQ,bM]at Y;exact Wwv
    ·simp only[T,aR,bR,bM]at Y;exact Wwv
 intro z B;have:∃c,s.2.2.2.2.2.2.2.1=lj c/\z=.agg c:=by
  split at h
  all_goals
   simp at h;subst h;simp at B;obtain⟨c,C,J⟩:=B;exact⟨c,C,J.symm⟩
 obtain⟨c,C,rfl⟩:=this;rw[Cc,N c C]
def N6{d s z c}(h:Az n z=z):JV n (Made.word d s z c b):=λy U=>by
 simp[Made.word]at U;subst U;exact h
def Acp{c}(h:X0 n c)(k):X0 n (jj k c).flatten:=by
 unfold X0 at *
 simp_all
def QJ{a:q9->Option me}(V:∀t i,a t=lj i->JV n i){d i}(h:Made.reckon a d=lj i):JV n i:=by
 unfold Made.reckon at h;cases d with
 |struct L=>exact QK V h
 |pointer e=>
  simp only[dY,bM]at h;obtain⟨k,E,h⟩:=h;split at h
  ·cases h
  ·split at h
   ·cases h
   ·exact Kaq
  ·exact Kaq
 |slice e=>
  exact E3f
 |map k e=>
  simp only[dY,bM,fM,aT]at h;obtain⟨_,_,_,_,_,_,_,_,rfl⟩:=h;exact N6 Ad
 |chan b e=>
  exact E3f
 |func c r v=>
  simp only[dY,bM,fM,aT]at h;obtain⟨_,_,rfl⟩:=h;exact N6 Ad
 |array k e=>
  simp only[dY,bM,fM,aT]at h;obtain⟨q,f,_,_,rfl⟩:=h;intro z N;dsimp only at N;split at N
  ·cases N
  ·split at N
   ·simp at N;subst N;simp
   ·simp at N;obtain⟨y,U,rfl⟩:=N;rw[Cc,Acp (DV (V _ q f y U))]
 |_=>simp at h
def Zp{T}(F:∀(t:Nat)i,T.types[t]?=lj i->JV n i):∀(k t:Nat)i,Made.infoAt T k t=lj i->JV n i
 |0,t,i,h=>by cases h
 |k+1,t,i,h=>by
  unfold Made.infoAt at h;split at h
  ·exact F t i h
  ·simp only[bM]at h;have ⟨d,_,h⟩:=h;exact QJ (Zp F k) h
def OP(P:im):Bool:=P.types.all λi=>match i.zero with|some z=>GK z|none=>km
def Aal{P}(h:OP P=km):Hr P:=λt i z V N n=>by
 have F:∀t(i:me),P.types[t]?=lj i->JV n i:=λt i V z N=>by
  unfold OP at h;rw[cU]at h;have:=h i (cF V);rw[N]at this;exact Xh this
 unfold Tables.info? at V;split at V
 ·exact F t i V z N
 ·exact Zp F _ _ _ V z N
def Ren.Ag(n m m':Z):Prop:=∀i,sh n i=i->sh m i=sh m' i
section
def JC(h:n.Ag m q){a}(d:Ei n a=a):Ei m a=Ei q a:=by
 have ⟨b,f,s⟩:=a;simp only[Ei,Addr.mk.injEq,and_true]at d⊢;exact h b d
def Ta{f g R:a->a}{c:Array a}(M:c.map f=c)(h:∀y∈c,f y=y->g y=R y):c.map g=c.map R:=by
 grind
def VJ(h:n.Ag m q){f}(I:Mq n f=f):Mq m f=Mq q f:=by
 cases f with
 |yield l=>simp only[Mq,Fn.yield.injEq]at I⊢;exact h l I
 |_=>rfl
def I2(h:n.Ag m q):(x:uo)->Az n x=x->Az m x=Az q x
 |.pointer a,Z=>by
  cases a with
  |none=>simp
  |some a=>simp only[A8,aI,Value.pointer.injEq,aT]at Z⊢;exact JC h Z
 |.slice a l c,Z=>by
  cases a with
  |none=>simp
  |some a=>simp only[Bm,aI,Value.slice.injEq,aT,and_true]at Z⊢;exact JC h Z
 |.map r,Z=>by
  cases r with
  |none=>simp
  |some r=>simp only[C9,aI,Value.map.injEq,aT]at Z⊢;exact h r Z
 |.chan r,Z=>by
  cases r with
  |none=>simp
  |some r=>simp only[Dg,aI,Value.chan.injEq,aT]at Z⊢;exact h r Z
 |.func f a b,Z=>by
  simp only[Cn,Value.func.injEq]at Z⊢;exact⟨VJ h Z.1,Ta Z.2.1 λy U e=>I2 h y e,Ta Z.2.2 λy U e=>I2 h y e⟩
 |.iface t v,Z=>by
  simp only[Cf,Value.iface.injEq,true_and]at Z⊢;exact I2 h v Z
 |.agg cs,Z=>by
  simp only[Cc,Value.agg.injEq]at Z⊢;exact Ta Z λy U e=>I2 h y e
 |.tuple cs,Z=>by
  simp only[Ce,Value.tuple.injEq]at Z⊢;exact Ta Z λy U e=>I2 h y e
 |.bool b,_=>Ad
 |.int k i,_=>Ad
 |.float k b,_=>Ad
 |.complex k x y,_=>Ad
 |.string s,_=>Ad
 |.nilFunc,_=>Ad
 |.nilIface,_=>Ad
end
structure GC(P J)(t:Ren->Sem r8)(v x v'):Prop where
 plain:Plain v->Plain v'
 frame:Plain v->∃es,Dd v v' es/\∀e∈es,Hk v' e/\Ff J e
 all:Plain v->∀n(t0:Nat)w,n.Fix P.globals.size->iL v'.1<=t0->Sm n t0 J v w->∃(w':gk)(y:r8)(fs:Array oy),(t n).run P w=.ok y w'/\(y=.value (Az n x)∨(y=.skip/\x=qp))/\Sm n t0 J v' w'/\Dd w w' (fs.map (Ky n))/\(∀e∈fs,Hk v' e/\Ff J e)/\∀e∈(t n).events P w #[],e∈fs.map (Ky n)
def Fp(a:Act)(o:ox)(n:Z):Sem r8:=execOp (Bw n a).eval o
section
variable {P:im} {J:gW} {a:Act} {S:Env} {g:Array ox}
def IK(h:opsV P main J F fn g l Q a w)(d):opsV P main J F fn g l Q a (w.at d):=λb k z D E M=>EV.at (h b k z D E M) d
def Cp(h:Hp P main J F fn c Q a w)(d):Hp P main J F fn c Q a (w.at d):=λb k z D E M=>EV.at (h b k z D E M) d
def WQ{b}(h:Bg P main J F f b w Y)(d):Bg P main J F f b (w.at d) Y:=by
 have ⟨fn,c,C,a,T,q⟩:=h;exact⟨fn,c,C,a,T,λX cs L z=>EV.at (q X cs L z) d⟩
def Bq{b E}(h:Bg P main J F f b w Y)(H:∀x B,Y x B->E x B):Bg P main J F f b w E:=by
 have ⟨fn,c,C,a,T,q⟩:=h;exact⟨fn,c,C,a,T,λX cs L z=>q X cs L λv B Q=>z v B (H v B Q)⟩
def Sa{b:N}{k cs}{rest:hZ}(O:g[i]?=lj o)(W:Region.wanted o (iu g a.tmps)=km)(E:b.kind≠.early)(Y:(execOp a.eval o).run P w=.ok .skip B):o1 P main (G (b.at a (.inRegion g (i::rest)::k)) cs) w=.go (G (b.at (a.put o.dst qp) (.inRegion g rest::k)) cs) B (listed P b.fn a o w):=by
 have Q:(b.at a (.inRegion g (i::rest)::k)).finish qp=b.at (a.put o.dst qp) (.inRegion g rest::k):=by rw[Frame.finish_at,O];rfl
 rw[stepG_oper O W,←Q];simp[stepG.apply,Y,G,(by simpa using E),rq,listed,Frame.at]
def Qh(O:g[i]?=lj o)(A:Region.wanted o (iu g a.tmps)=km)(H:∀d,∃x U,GC P J (Fp a o) (w.at d) x U/\opsV P main J F fn g l Q (a.put o.dst x) U):opsV P main J F fn g (i::l) Q a w:=by
 intro b k z D E u;have K:b.kind≠.early:=by rw[E];decide
 refine EV.step iI λm d=>?_;obtain⟨x,U,Y,v⟩:=H d;have j:Plain (w.at d):=m;refine⟨G (b.at (a.put o.dst x) (.inRegion g l::k)) z,U,⟨iI,Y.plain j,Y.frame j,λn t W p R s=>?_⟩,v b k z D E u⟩;obtain⟨f,y,L,C,h,T,q,c,r⟩:=Y.all j n t W p R s;have B:Region.wanted o (iu g (Bw n a).tmps)=km:=by
  exact C0b
 exact Rq7
def Qo(V:Oi P S fn o)(j:S.reg fn a.tmps)(d:Yields P (execOp a.eval o) v x U)(N:∀e∈(execOp a.eval o).events P v #[],Ff J e):GC P J (Fp a o) v x U:=by
 have r:∀b:Act,((default:qq).at b []).eval=b.eval:=λb=>funext λy=>xg (default:qq) b [] y;have c:∀n:Ren,n.Fix P.globals.size->Rf P n (Kz n) (execOp a.eval o) (Fp a o n):=λn p=>by
  have:=V.rf n ((default:qq).at a []) p j
  rwa[Gn,cM,r,r]at this
 obtain⟨l,F⟩:=R8;have f:∃y,(y=.value x∨(y=.skip/\x=qp))/\(execOp a.eval o).run P v=.ok y U:=by
  rcases d with d|⟨d,rfl⟩
  ·grind
  grind
 obtain⟨y,Z,Y⟩:=f;refine⟨λQ=>((c l (F _)).mono v y U Q Y).1,λQ=>?_,λQ n u w p R s=>?_⟩
 ·obtain⟨_,i,k⟩:=(c l (F _)).mono v y U Q Y
  grind
 ·obtain⟨_,_,k⟩:=(c l (F _)).mono v y U Q Y;obtain⟨B,C,g,T,q⟩:=(c n p).sim J u v w s Q N y U Y R;exact Ote
def GC.over{t:Ren->Sem r8}{u}(W:RowsIn Bs w)(d:De Bs w u)(S:r (Cb Bs w u)->r u)(Y:GC P J t u x O):GC P J t (Cb Bs w u) x (Cb Bs w O)/\(r u->De Bs w O):=by
 refine⟨⟨λQ=>?_,λQ=>?_,λQ n i y p R Z=>?_⟩,λQ=>let⟨_,c,_⟩:=Y.frame Q;d.frame c⟩
 ·have ⟨X,c,_⟩:=Y.frame (S Q);exact H0 W (d.frame c) (Y.plain (S Q))
 ·have ⟨X,c,K⟩:=Y.frame (S Q);exact⟨X,Sr d c,λb N=>⟨(Kv (d.frame c) (K b N).1).2.2,(K b N).2⟩⟩
 ·have ⟨X,c,_⟩:=Y.frame (S Q);have f:=d.frame c;rw[Bh]at R;have ⟨a,e,L,C,g,j,T,q,z⟩:=Y.all (S Q) n i y p R (Z.hide d);exact⟨a,e,L,C,g,Z.show d f j T λb N=>(q b N).1,T,λb N=>⟨(Kv f (q b N).1).2.2,(q b N).2⟩,z⟩
def Qm(Q:r w):r (Bb Bs w):=λi o O=>by
 exact Ns6
def Dc:(Bb Bs w).1.size=iL w.1:=by unfold Bb;simp
def AR(V:Oi P S fn o)(j:S.reg fn a.tmps)(W:RowsIn Bs w)(D:Ko J (Bb Bs w))(K:Pk J w.1.size){R:iA}(H:∀L,Twin (Bb Bs w) L->∃x p,Yields P (execOp a.eval o) L x p/\R x p)(d)(Q:Plain w):∃x u,GC P J (Fp a o) (w.at d) x (Cb Bs w u)/\De Bs w u/\u.tape=w.tape/\R x u:=by
 obtain⟨x,u,U,c⟩:=H ((Bb Bs w).at d) ⟨iI,iI,iI⟩;have q:Plain ((Bb Bs w).at d):=Qm Q;have r:∀b:Act,((default:qq).at b []).eval=b.eval:=λb=>funext λy=>xg (default:qq) b [] y;obtain⟨l,F⟩:=R8;have m:Rf P l (Kz l) (execOp a.eval o) (Fp a o l):=by
  have:=V.rf l ((default:qq).at a []) (F _) j
  rwa[Gn,cM,r,r]at this
 have n:∃y,(execOp a.eval o).run P ((Bb Bs w).at d)=.ok y u:=by
  rcases U with U|⟨U,rfl⟩
  ·exact⟨_,U⟩
  ·exact⟨_,U⟩
 obtain⟨y,Y⟩:=n;obtain⟨i,f,k⟩:=m.mono _ y u q Y;have z:Ko J ((Bb Bs w).at d):=D;have g:Pk J ((Bb Bs w).at d).1.size:=by
  have:((Bb Bs w).at d).1.size=iL w.1:=Dc
  rwa[this]
 have t:∀e∈(execOp a.eval o).events P ((Bb Bs w).at d) #[],Ff J e:=λe N=>z.frame g f e (k e N);have s:Cb Bs w ((Bb Bs w).at d)=w.at d:=by
  have:=I3 W;have v:Cb Bs w ((Bb Bs w).at d)=(Cb Bs w (Bb Bs w)).at d:=iI;rw[v,this]
 have:=GC.over W ((Fy W).at d) (λ_=>q) (Qo (J:=J) V j U t);rw[s]at this;exact⟨x,u,this.1,this.2 q,f.tape,c⟩
def YL(O:g[i]?=lj o)(v:Region.wanted o (iu g a.tmps)=km)(V:Oi P S fn o)(j:S.reg fn a.tmps)(W:RowsIn Bs w)(D:Ko J (Bb Bs w))(K:Pk J w.1.size){R:iA}(H:∀L,Twin (Bb Bs w) L->∃x p,Yields P (execOp a.eval o) L x p/\R x p)(b:∀x u,De Bs w u->u.tape=w.tape->R x u->opsV P main J F fn g l Q (a.put o.dst x) (Cb Bs w u)):opsV P main J F fn g (i::l) Q a w:=λc k z d E M e=>
 Qh O v (λf=>let⟨x,u,C,h,T,q⟩:=AR V j W D K H f e;⟨x,_,C,b x u h T q⟩) c k z d E M e
def Ae0(Y:∀n w,n.Fix P.globals.size->(Fp a o n).run P w=.ok (.value (Az n x)) w)(N:∀n w,(Fp a o n).events P w #[]=#[]):GC P J (Fp a o) v x v:=
 ⟨id,λ_=>⟨#[],.refl _ _,Ad⟩,λQ n u w p R s=>⟨w,_,#[],Y n w p,.inl iI,s,.refl _ _,Ad,by simp[N n w]⟩⟩
def Rh(V:Oi P S fn o)(j:S.reg fn a.tmps)(Y:∀w,(execOp a.eval o).run P w=.ok (.value x) w)(N:∀w,(execOp a.eval o).events P w #[]=#[]):GC P J (Fp a o) v x v:=
 Qo V j (.inl (Y v)) (by rw[N];simp)
def Gl{x}(O:g[i]?=lj o)(W:Region.wanted o (iu g a.tmps)=km)(V:Oi P S fn o)(j:S.reg fn a.tmps)(Y:∀w,(execOp a.eval o).run P w=.ok (.value x) w)(N:∀w,(execOp a.eval o).events P w #[]=#[])(h:opsV P main J F fn g l Q (a.put o.dst x) w):=
 Qh O W λd=>⟨x,w.at d,Rh V j Y N,IK h d⟩
def Cy{x v'}(O:g[i]?=lj o)(W:Region.wanted o (iu g a.tmps)=km)(V:Oi P S fn o)(j:S.reg fn a.tmps)(Y:∀d,Yields P (execOp a.eval o) (w.at d) x (v'.at d))(N:∀d,∀e∈(execOp a.eval o).events P (w.at d) #[],Ff J e)(h:opsV P main J F fn g l Q (a.put o.dst x) v'):=
 Qh O W λd=>⟨x,v'.at d,Qo V j (Y d) (N d),IK h d⟩
end
def Ren.one:Z:=⟨id,λh=>h⟩
def Ren.up(M:Nat):Z:=⟨λi=>if i<M then i else i+1,λ{i j} h=>by
 split at h<;>split at h<;>omega⟩
def Im(h:i<M):sh (.up M) i=i:=aL h
def Apg(h:M<=i):sh (.up M) i=i+1:=aM Aa
def Afy:sh (.up M) i=i↔i<M:=by
 unfold sh Z.up;simp only;split<;>omega
def Ren.one_fix(G):Z.one.Fix G:=λ_ _=>rfl
def Ren.up_fixG{G}(h:G<=M):(Z.up M).Fix G:=λi V=>Im Aa
def TY{M}(h:∀i,i<M->sh m i=sh q i):(Z.up M).Ag m q:=λi V=>h i (Afy.1 V)
def Z6{f:a->a}(c:Array a)(h:∀y∈c,f y=y):c.map f=c:=by
 grind
def Qq(i):sh .one i=i:=iI
def Yt(a):Ei .one a=a:=iI
def NI(f):Mq .one f=f:=by cases f<;>rfl
def Ez:(x:uo)->Az .one x=x
 |.pointer a=>by cases a<;>simp[Yt]
 |.slice a l c=>by cases a<;>simp[Yt]
 |.map r=>by cases r<;>simp[Qq]
 |.chan r=>by cases r<;>simp[Qq]
 |.func f a b=>by
  rw[Cn,NI,Z6 a λy U=>Ez y,Z6 b λy U=>Ez y]
 |.iface t v=>by rw[Cf,Ez v]
 |.agg cs=>by rw[Cc,Z6 cs λy U=>Ez y]
 |.tuple cs=>by rw[Ce,Z6 cs λy U=>Ez y]
 |.bool b=>Ad
 |.int k i=>Ad
 |.float k b=>Ad
 |.complex k x y=>Ad
 |.string s=>Ad
 |.nilFunc=>Ad
 |.nilIface=>Ad
def Qe{f:uo->uo}(h:∀x,f x=x)(c:gY):=Z6 c λy _=>h y
def Aet(t):Wn .one t=t:=by cases t<;>simp[Wn,NI,Qe Ez,Qq]
def U1(d):O5 .one d=d:=by cases d;simp[O5,Aet,Qe Ez]
def HY{f:a->a}(l:List a)(h:∀y,f y=y):l.map f=l:=by
 conv=>rhs;rw[←fG l]
 exact dF λy _=>h y
def Aep(x):Is .one x=x:=by cases x;simp[Is,Ez]
def AL(o):Dq .one o=o:=by
 cases o with
 |cells c e f=>simp[Dq,Qe Ez]
 |pending c e=>simp[Dq,Qe Ez]
 |view a t=>simp[Dq,Yt]
 |number a b=>simp[Dq,Yt]
 |map X C=>simp only[Dq];rw[Z6 X λy _=>Aep y]
 |chan I d x s r t=>simp[Dq,Qe Ez]
 |mapIter m g se h=>cases m<;>simp[Dq,Qq]
 |loop l=>cases l;simp[Dq,Qe Ez,Qq]
 |deferred cs=>simp only[Dq];cases cs with
  |none=>rfl
  |some l=>simp[HY l U1]
 |finalizers L r=>simp only[Dq];rw[Z6 L λy _=>by simp[U1,Qq]]
 |_=>rfl
def Aer(x):Df .one x=x:=by cases x<;>simp[Df,U1,Qe Ez,Qq]
def Aes(m):Jx .one m=m:=by
 cases m with
 |panicking c=>simp[Jx,Ez]
 |_=>rfl
def ET(X):Bj .one X=X:=by
 have ⟨a,b,c,d,e,f,g⟩:=X;simp only[Bj,Qe Ez,HY c Aer,HY d U1,Aes];cases g<;>simp[Qq]
def NK(g):Bn .one g=g:=by
 have ⟨a,b,c,d,e⟩:=g;simp only[Bn,ET,HY b ET]
section
variable {P:im} {k:Bool} {J:gW} {d:x8} {a:Act} {S:Env} {g:Array ox}
inductive DI(P k J)(F:vr->gk->Prop)(g)(i:Nat)(K:Act->gk->Prop)(a:Act)(e):Prop
 |unwanted (o:ox) (ho:g[i]?=lj o) (hw:Region.wanted o (iu g a.tmps)=sd) (h:K (a.put o.dst qp) e)
 |op (o:ox) (ho:g[i]?=lj o) (hw:Region.wanted o (iu g a.tmps)=km) (h:Plain e->∀d,∃x v',GC P J (Fp a o) (e.at d) x v'/\K (a.put o.dst x) v')
 |call (o:ox) (f) (args) (ats) (Post) (ho:g[i]?=lj o) (hw:Region.wanted o (iu g a.tmps)=km) (hop:o.op=.call { callee:=.value (.func f),args:=args,argTypes:=ats }) (hk:args.all (Eh P.globals.size)=km)
   (hc:Bg P k J F f (args.map a.eval) e Post) (h:∀x w',Post x w'->K (a.put o.dst x) w')
def DI.mono{b:Act->y->Prop}(c:∀a e,K a e->b a e)(h:DI P k J F g i K a e):DI P k J F g i b a e:=by
 cases h with
 |unwanted o O W h=>exact .unwanted o O W (c _ _ h)
 |op o O W h=>exact .op o O W λQ d=>let⟨x,U,C,f⟩:=h Q d;⟨x,U,C,c _ _ f⟩
 |call o j l m Y O W T E M h=>exact .call o j l m Y O W T E M λx B p=>c _ _ (h x B p)
def YM(O:g[i]?=lj o)(W:Region.wanted o (iu g a.tmps)=km)(H:r e->∀b,∃x U,GC P J (Fp a o) (e.at b) x U/\opsV P k J F d g l Q (a.put o.dst x) U):opsV P k J F d g (i::l) Q a e:=
 λf h z D E M c=>Qh O W (H c) f h z D E M c
def DI.goesOn(h:DI P k J F g i (λb B=>opsV P k J F d g l Q b B) a e):opsV P k J F d g (i::l) Q a e:=by
 cases h with
 |unwanted o O W h=>exact Bt O W h
 |op o O W h=>exact YM O W h
 |call o f c m Y O W T E M h=>exact EL O W T M h E
def A9(P:im)(k:Bool)(J:gW)(F:vr->y->Prop)(md:Region.Mode)(g:Array ox)(Q:uf->Act->y->Prop)(I:gX):Nat->Array Bool->Act->y->Prop
 |0,done,a,e=>Region.ready md g done = []/\Q .normal a e
 |fuel+1,done,a,e=>(Region.ready md g done = []->Q .normal a e)/\∀i∈Region.ready md g done,DI P k J F g i (λa' w'=>I w'/\A9 P k J F md g Q I fuel (done.setIfInBounds i km) a' w') a e
def A9.sound{M}:∀c t(b:Array Bool)a(w:y),A9 P k J F M g Q I c b a w->opsV P k J F d g (Region.linearise.go M g c t b []) Q a w:=by
 intro c
 induction c with
 |zero=>intro t b a w h;simpa[Region.linearise.go] using Au h.2
 |succ c O=>
  intro t b a w h;have ⟨e,U⟩:=h;change opsV P k J F d g (match (Region.ready M g b)[t % (Region.ready M g b).length]? with
   |some i=>Region.linearise.go M g c (t / (Region.ready M g b).length) (b.setIfInBounds i km) [i]
   |none=>[].reverse) Q a w
  cases V:(Region.ready M g b)[t % (Region.ready M g b).length]? with
  |none=>
   have D:Region.ready M g b = []:=by
    cases Y:Region.ready M g b with
    |nil=>rfl
    |cons x X=>
     rw[Y,fN]at V;exact absurd (Nat.mod_lt t (by simp:(x::X).length > 0)) Aa
   simpa using Au (e D)
  |some i=>
   simp only[];rw[linearise_go_acc,List.reverse_singleton,List.singleton_append];exact DI.goesOn ((U i (bA V)).mono λl B x=>O _ _ l B x.2)
def Em{I}(L:P.follows .mixedOrders=km)(i:∀c,A9 P k J F .any g Q I g.size (jj g.size sd) a (e.at c)):Hp P k J F d (.region b g km) Q a e:=by
 intro f h z D E M;refine EV.step iI λj c=>⟨G (f.at a (.inRegion g (Region.schedule (P.follows .mixedOrders) g (e.tape c (.order f.fn b)))::h)) z,{ e.at c with drawn:=c+1 },BC rfl (show r (e.at c) from j) λn u p R y=>?_,?_⟩
 ·rw[Ep,Gn,Ep,Gn];have l:u.tape=e.tape:=R;have s:u.drawn=c:=y;simp[G,o1,o8,Frame.at,choose,ux,ql,y9,l,s,Df]
 ·simp only[Region.schedule,L,Bool.true_or,bQ];exact A9.sound g.size _ _ a _ (i (c+1)) f h z D E M
def YV(P:im)(J:gW)(g:Array ox)(I:gX)(oi:ox)(x:uo)(a:Act):Prop:=
 (Region.wanted oi (iu g a.tmps)=sd->x=qp)/\(Region.wanted oi (iu g a.tmps)=km->∀e,I e->GC P J (Fp a oi) e x e)
variable {M:Region.Mode}
def DI.at(p:∀a e d,K a e->K a (e.at d))(h:DI P k J F g i K a e)(d):DI P k J F g i K a (e.at d):=by
 cases h with
 |unwanted o O W h=>exact .unwanted o O W (p _ _ d h)
 |op o O W h=>exact .op o O W h
 |call o f b m Y O W T E M h=>exact .call o f b m Y O W T E (WQ M d) h
def A9.at(o:∀w d,I w->I (w.at d))(b:∀a w d,Q .normal a w->Q .normal a (w.at d)):∀c(f:Array Bool)a(w:y)d,A9 P k J F M g Q I c f a w->A9 P k J F M g Q I c f a (w.at d)
 |0,_,_,_,d,h=>⟨h.1,b _ _ d h.2⟩
 |c+1,_,_,_,d,h=>⟨λi=>b _ _ d (h.1 i),λj V=>(h.2 j V).at (λa w d e=>⟨o _ d e.1,A9.at o b c _ a w d e.2⟩) d⟩
def YV.opV{G}(o:∀e d,I e->I (e.at d))(p:∀a e d,K a e->K a (e.at d))(V:g[i]?=lj G)(U:YV P J g I G x a)(W:I e)(h:K (a.put G.dst x) e):DI P k J F g i K a e:=by
 cases v:Region.wanted G _ with
 |false=>exact .unwanted G V v (by rwa[U.1 v]at h)
 |true=>exact .op G V v λ_ d=>⟨x,e.at d,U.2 v _ (o _ d W),p _ _ d h⟩
def FE(o)(s:∀cs b,o.op≠.select cs b)(a d y)(h:∀t,d=lj t->¬t∈Oper.looksAt g o):Fp (a.put d y) o=Fp a o:=by
 funext n
 unfold Fp;rw[←Nt];exact execOp_put o s _ d _ h
def DI.putIf{G L}(l:g[j]?=lj L)(H:G.apart g L=km)(n:∀cs b,G.op≠.select cs b)(N:∀cs b,L.op≠.select cs b)(U:YV P J g I G x a)(h:DI P k J F g j K (a.put G.dst x) e):DI P k J F g j (λm B=>YV P J g I G x m/\K (m.put G.dst x) B) a e:=by
 obtain⟨X,c,i⟩:=Oper.apart_spec H;have d:∀y,YV P J g I G x (a.put L.dst y):=λy=>by
  refine⟨λf=>U.1 (by rwa[va G a L.dst y i]at f),λf e W=>?_⟩;rw[FE G n a L.dst y i];exact U.2 (by rwa[va G a L.dst y i]at f) e W
 cases h with
 |unwanted o O W h=>
  obtain rfl:L=o:=aB (l.symm.trans O);rw[va L a G.dst x X]at W;exact .unwanted L O W ⟨d _,by rwa[←my a x qp c]⟩
 |op o O W h=>
  obtain rfl:L=o:=aB (l.symm.trans O);rw[va L a G.dst x X]at W;rw[FE L N a G.dst x X]at h;exact .op L O W λQ p=>let⟨y,q,C,v⟩:=h Q p;⟨y,q,C,d _,by rwa[←my a x y c]⟩
 |call o r s t Y O W T E M h=>
  obtain rfl:L=o:=aB (l.symm.trans O);rw[va L a G.dst x X]at W;rw[CH T X]at M;exact .call L r s t Y O W T E M λy B u=>⟨d _,by rw[←my a x y c];exact h y B u⟩
def A9.first(u:∀w d,I w->I (w.at d))(E:∀a w d,Q .normal a w->Q .normal a (w.at d)){G}(V:g[i]?=lj G)(m:∀(j:Nat) o cs c,g[j]?=lj o->o.op≠.select cs c):∀r(b:Array Bool)a(w:gk),
   (∀j L,g[j]?=lj L->j≠i->b.getD j km=sd->(∀e∈L.after,Region.binds M e=km->e.on≠i)->G.apart g L=km) ->
   i∈Region.ready M g b->YV P J g I G x a->I w->A9 P k J F M g Q I r (b.setIfInBounds i km) (a.put G.dst x) w->A9 P k J F M g Q I (r+1) b a w:=by
 have p:∀r b,∀a w d,(I w/\A9 P k J F M g Q I r b a w)->(I (w.at d)/\A9 P k J F M g Q I r b a (w.at d)):=λr b a w d h=>⟨u _ d h.1,A9.at u E r b a w d h.2⟩;intro r
 induction r with
 |zero=>
  intro b a w _ Y U s H;refine⟨λh=>Aj,λj l=>?_⟩;by_cases R:j=i
  ·subst R;exact U.opV u (p _ _) V s ⟨s,H⟩
  ·have:=ready_mono l R;rw[H.1]at this;cases this
 |succ r A=>
  intro b a w n Y U s H;refine⟨λh=>(by rw[h]at Y;cases Y),λj l=>?_⟩;by_cases R:j=i
  ·subst R;exact U.opV u (p _ _) V s ⟨s,H⟩
  ·have C:=H.2 j (ready_mono l R);obtain⟨q,L,f,K⟩:=mem_ready.1 l;have Z:∀e∈L.after,Region.binds M e=km->e.on≠i:=λe N D O=>by
    have C:=K e N D;have t:=(mem_ready.1 Y).1;rw[O]at C;rcases Nat.lt_or_ge i b.size with v|v
    ·simp[v]at t C;rw[t]at C;cases C
    ·simp[cR v]at C
   refine(DI.putIf f (n j L f R q Z) (λcs c=>m i G cs c V) (λcs c=>m j L cs c f) U C).mono λS W T=>⟨T.2.1,A (b.setIfInBounds j km) S W (λy B X a1 a6 a7=>n y B X a1 ?_ a7) (ready_mono Y (dG R)) T.1 T.2.1 ?_⟩
   ·by_cases z:j=y
    ·subst z;exact q
    ·rwa[getD_set_ne km z]at a6
   ·rw[Array.setIfInBounds_comm _ _ R];exact T.2.2
def A9.take(o:∀e d,I e->I (e.at d))(f:∀a e d,Q .normal a e->Q .normal a (e.at d)){i G x c}(V:g[i]?=lj G)(s:Region.noSelect g=km)(h:Region.free M g c i=km)(Y:(Region.ready M g c).contains i=km)(U:YV P J g I G x a)(H:I e)(j:A9 P k J F M g Q I b (c.setIfInBounds i km) (a.put G.dst x) e):=
 A9.first o f V (Region.noSelect_spec s) b c a e (Region.free_spec V h) (by simpa using Y) U H j
def A9.only{i c b}(Y:Region.ready M g b = [i])(h:DI P k J F g i (λd B=>I B/\A9 P k J F M g Q I c (b.setIfInBounds i km) d B) a e):A9 P k J F M g Q I (c+1) b a e:=
 ⟨λf=>Aj,λj l=>Aj⟩
def A9.all{b}(Y:Region.ready M g b = [])(h:Q .normal a e):∀c,A9 P k J F M g Q I c b a e
 |0=>⟨Y,h⟩
 |_+1=>⟨λ_=>h,λi V=>Aj⟩
end
section
def Ul{f g R:a->a}{c:List a}(M:c.map f=c)(h:∀y∈c,f y=y->g y=R y):c.map g=c.map R:=by
 refine dF λy U=>h y U ?_;obtain⟨i,V,rfl⟩:=gF.1 U
 grind
def Lp(h:n.Ag m q){c:gY}(M:c.map (Az n)=c):=Ta M λy _ e=>I2 h y e
def Ah1(h:n.Ag m q){t}(R:Wn n t=t):Wn m t=Wn q t:=by
 cases t with
 |fn f c=>simp only[Wn,Target.fn.injEq]at R⊢;exact⟨VJ h R.1,Lp h R.2⟩
 |collected r=>simp only[Wn,Target.collected.injEq]at R⊢;exact h r R
 |_=>rfl
def Yr(h:n.Ag m q){d}(y:O5 n d=d):O5 m d=O5 q d:=by
 have ⟨t,c⟩:=d;simp only[O5,Deferred.mk.injEq]at y⊢;exact⟨Ah1 h y.1,Lp h y.2⟩
def Ahx(h:n.Ag m q){d}(y:Is n d=d):Is m d=Is q d:=by
 have ⟨k,v,b⟩:=d;simp only[Is,MapEntry.mk.injEq,and_true]at y⊢;exact⟨I2 h _ y.1,I2 h _ y.2⟩
def Ah0(h:n.Ag m q){o}(O:Dq n o=o):Dq m o=Dq q o:=by
 cases o with
 |cells c e p=>simp only[Dq,lu,and_true]at O⊢;exact Lp h O
 |pending c e=>simp only[Dq,Obj.pending.injEq,and_true]at O⊢;exact Lp h O
 |view a t=>simp only[Dq,Obj.view.injEq,and_true]at O⊢;exact JC h O
 |number a d=>simp only[Dq,Obj.number.injEq,and_true]at O⊢;exact JC h O
 |map X C=>simp only[Dq,Obj.map.injEq,and_true]at O⊢;exact Ta O λy _ e=>Ahx h e
 |chan I f x s r t=>simp only[Dq,Obj.chan.injEq,and_true,true_and]at O⊢;exact Lp h O
 |mapIter b u se v=>
  cases b with
  |none=>rfl
  |some b=>simp only[Dq,aI,Obj.mapIter.injEq,aT,and_true]at O⊢;exact h b O
 |loop l=>
  have ⟨g,i,S,j,Y,k,M,w⟩:=l;simp only[Dq,Obj.loop.injEq,Loop.mk.injEq, true_and]at O⊢;exact⟨Lp h O.1,h _ O.2⟩
 |deferred cs=>
  cases cs with
  |none=>rfl
  |some l=>simp only[Dq,aI,Obj.deferred.injEq,aT]at O⊢;exact Ul O λy _ e=>Yr h e
 |finalizers L r=>
  simp only[Dq,Obj.finalizers.injEq,and_true]at O⊢;refine Ta O λy _ e=>?_;have ⟨a,d⟩:=y;simp only[cS]at e⊢;exact⟨h a e.1,Yr h e.2⟩
 |_=>rfl
def Ahy(h:n.Ag m q){x}(Z:Df n x=x):Df m x=Df q x:=by
 cases x with
 |inRangeFunc l=>simp only[Df,Item.inRangeFunc.injEq]at Z⊢;exact h l Z
 |endRangeFunc l=>simp only[Df,Item.endRangeFunc.injEq]at Z⊢;exact h l Z
 |call d w r s=>simp only[Df,Item.call.injEq,true_and]at Z⊢;exact⟨Yr h Z.1,Lp h Z.2⟩
 |extern r a=>simp only[Df,Item.extern.injEq,true_and]at Z⊢;exact Lp h Z
 |_=>rfl
def NJ(h:n.Ag m q)(I:Bj n X=X):Bj m X=Bj q X:=by
 obtain⟨u,b,d,c,a,kind,Y⟩:=X;simp only[Bj,Frame.mk.injEq,true_and]at I⊢;refine⟨Lp h I.1,Ul I.2.1 λy _ e=>Ahy h e,Ul I.2.2.1 λy _ e=>Yr h e,?_,?_⟩
 ·cases a with
  |panicking f=>
   simp only[Jx,FrameMode.panicking.injEq]at I⊢;refine Ul I.2.2.2.1 λy _ e=>?_;obtain⟨v,r,g⟩:=y;simp only[PanicEntry.mk.injEq,and_true]at e⊢;exact I2 h v e
  |_=>rfl
 ·cases Y with
  |none=>rfl
  |some l=>simp only[aI,aT]at I⊢;exact h l I.2.2.2.2
def U2(h:n.Ag m q){g}(G:Bn n g=g):Bn m g=Bn q g:=by
 have ⟨a,b,c,d,e⟩:=g;simp only[Bn,ve,and_true]at G⊢;exact⟨NJ h G.1,Ul G.2 λy _ e=>NJ h e⟩
def LikeO.ag{J o I}(h:n.Ag m q)(s:E n J i o o)(K:E m J i o I):E q J i o I:=by
 rcases K with rfl|⟨c,B,e,d,rfl,rfl,N,M⟩|K|K
 ·rcases s with e|⟨c,B,e,d,rfl,L,N,M⟩|⟨l,z,_⟩|⟨B,e,d,rfl,L⟩
  ·exact .inl (Ah0 h e.symm)
  ·cases L;refine .inr (.inl ⟨c,_,e,d,iI,iI,Ad,λj l=>?_⟩);rw[aN];have:=M j l;cases U:c[j]? with
   |none=>rfl
   |some x=>
    rw[U]at this;exact aJ lj (I2 h x (aB this).symm)
  ·exact .inr (.inr (.inl ⟨⟨l.1,Ob _ _⟩,z,Gz z⟩))
  ·exact .inr (.inr (.inr ⟨_,_,_,iI,iI⟩))
 ·refine .inr (.inl ⟨c,B,e,d,iI,iI,N,λj l=>?_⟩);rw[M j l];cases U:c[j]? with
  |none=>rfl
  |some x=>
   apply aJ lj;rcases s with S|⟨Q,f,S,R,L,Y,_,g⟩|⟨_,z,_⟩|⟨f,S,R,L,Y⟩
   ·simp only[Dq,lu,and_true]at S;have:=aJ (λa:Array uo=>a[j]?) S;simp only[aN,U]at this;exact I2 h x (aB this).symm
   ·cases L;cases Y;have:=g j l;rw[U]at this;exact I2 h x (aB this).symm
   ·exact absurd iI (z _ _ _)
   ·cases L;simp at U
 ·exact .inr (.inr (.inl K))
 ·exact .inr (.inr (.inr K))
def LikeO.self{J o I}(h:E n J i o I)(C:E .one J i o I):E n J i o o:=by
 by_cases z:Cj o
 ·rcases C with rfl|⟨c,B,e,b,rfl,_⟩|⟨l,_⟩|⟨B,e,b,rfl,_⟩
  ·rwa[AL]at h
  ·exact absurd iI (z _ _ _)
  ·exact .inr (.inr (.inl ⟨⟨l.1,iI⟩,z,z⟩))
  ·exact absurd iI (z _ _ _)
 ·cases o with
  |cells c e b=>
   rcases C with rfl|⟨Q,B,S,R,L,rfl,N,M⟩|⟨_,Z,_⟩|⟨B,S,R,L,rfl⟩
   ·rwa[AL]at h
   ·cases L;rcases h with Y|⟨f,U,Y,d,s,t,T,x⟩|⟨_,Z,_⟩|⟨f,Y,d,s,t⟩
    ·simp only[Dq,lu,and_true]at Y;refine .inr (.inl ⟨c,c,e,b,iI,iI,iI,λj l=>?_⟩);have:=M j l;rw[Y,aN]at this;rw[this];cases c[j]?<;>simp[Ez]
    ·cases s;cases t;refine .inr (.inl ⟨c,c,e,b,iI,iI,iI,λj l=>?_⟩);have a:=x j l;rw[(M j l)]at a;rw[←a];cases c[j]?<;>simp[Ez]
    ·exact absurd iI (Z _ _ _)
    ·cases s;exact .inr (.inr (.inr ⟨_,_,_,iI,iI⟩))
   ·exact absurd iI (Z _ _ _)
   ·cases L;exact .inr (.inr (.inr ⟨_,_,_,iI,iI⟩))
  |_=>exact absurd (λ_ _ _ e=>HL) z
end
structure Wf(J g)(v:gk):Prop where
 mem:∀i(o:Obj),v.1[i]?=lj o->LikeO (.up v.1.size) J i o o
 gor:Bn (.up v.1.size) g=g
section
variable {P:im} {k:Bool} {J:gW}
def Wf.at(a:Wf J h v)(d):Wf J h (v.at d):=⟨a.mem,a.2⟩
def VU{m}(h:M<=m):(Z.up M).Ag (.up M) (.up m):=λi V=>by rw[V,Im (by have:=Afy.1 V;omega)]
def Wf.sm(a:Wf J h v){M}(b:iL v.1<=M):Sm (.up M) M J v v/\Bn (.up M) h=h:=by
 refine⟨⟨λj l=>Im l,λi V=>by rwa[Im Aa],λi V=>?_,λi o O=>⟨o,?_,E.ag (VU b) (a.mem i o O) (a.mem i o O)⟩,iI,iI,iI,iI⟩,?_⟩
 ·by_cases b:i<M
  ·rwa[Im b]
  ·rw[Apg Aa];omega
 ·rwa[Im Aj]
 ·rw[←U2 (VU b) a.2,a.2]
def Al0(v t):Sm .one t J v v:=⟨λj _=>rfl,λi V=>V,λi V=>V,λi o O=>⟨o,O,.inl (AL o).symm⟩,iI,iI,iI,iI⟩
def Wf.step(p:P.globals.size<=iL v.1)(c:Wf J h v)(s:Ha P k J h v R U):Wf J R U:=by
 have ⟨X,f,_⟩:=s.frame;have ⟨l,d⟩:=c.sm f.size;have ⟨H,S,D,m,e,Q,_⟩:=s.all _ U.1.size v (Ren.up_fixG (aE p f.size)) (aC _) l;have ⟨E,L,K,a,g,t,_⟩:=s.all .one U.1.size v (Ren.one_fix _) (aC _) (Al0 v _);rw[d]at m;rw[NK,NK,m]at a;injection a with N j q;subst j;refine⟨λi o O=>?_,N⟩;have ⟨n,C,B⟩:=e.4 i o O;have ⟨I,r,Z⟩:=g.4 i o O;rw[Im ((aG.1 O).1)]at C;have b:H.1[i]?=lj I:=r;rw[C]at b;cases b;exact LikeO.self B Z
end
section
variable {P:im} {k:Bool} {J:gW} {b c:Type}
def EV.sem{s}{f:Z->b->c}{t:Z->Sem c}(Y:h.status=.running)(g:∀n:Z,n.Fix P.globals.size->Rf P n (f n) s (t n))(H:∀d,∃a U R,s.run P (v.at d)=.ok a U/\(∀e∈s.events P (v.at d) #[],Ff J e)/\R.status=.running/\(∀n(w B:gk),n.Fix P.globals.size->(t n).run P w=.ok (f n a) B->∃G,o1 P k (Bn n h) w=.go (Bn n R) B G/\∀e∈G,e∈(t n).events P w #[])/\EV P k J F R U):EV P k J F h v:=by
 refine EV.step Y λm d=>?_;have ⟨a,U,R,C,i,T,E,z⟩:=H d;have ⟨l,o⟩:=R8;have j:Plain (v.at d):=m;have ⟨p,q,r⟩:=(g l (o _)).mono _ a U j C;refine⟨R,U,⟨T,p,⟨_,q,λe N=>⟨r e N,i e N⟩⟩,λn u w x y A=>?_⟩,z⟩;have ⟨B,M,I,D,K⟩:=(g n x).sim J u _ w A j i a U C y
 grind
def Le(l:Nat)(f:x8)(tmps:gY)(todo:List pf):N:={ fn:=f,tmps,todo,defers:=[],mode:=.run,kind:=.normal,roundOf:=lj l }
def U4(l f a b):Bj n (Le l f a b)=Le (sh n l) f (a.map (Az n)) (b.map (Df n)):=iI
variable {l:Nat} {tmps:gY} {j:List pf}
def EV.ctlR{a q}(D:EV P k J F (G (Le l f a q) cs) v)(h:∀n(cs:List N)w,n.Fix P.globals.size->o1 P k (G (Le (sh n l) f (tmps.map (Az n)) (j.map (Df n))) cs) w=.go (G (Le (sh n l) f (a.map (Az n)) (q.map (Df n))) cs) w):EV P k J F (G (Le l f tmps j) cs) v:=
 EV.ctl D iI iI λn w p=>h n _ w p
def AQ{a g}(D:EV P k J F (G (Le l f tmps (.inRegion g (yo g.size)::j)) cs) v):EV P k J F (G (Le l f tmps (.code (.region a g sd)::j)) cs) v:=EV.ctlR D λn cs e _=>by simp[G,o1,o8,Le,Df]
def Qn{g}(D:EV P k J F (G (Le l f tmps j) cs) v):EV P k J F (G (Le l f tmps (.inRegion g []::j)) cs) v:=EV.ctlR D λn cs e _=>by simp[G,o1,o8,Le,Df]
def ZJ{a c}(D:EV P k J F (G (Le l f tmps (.code c::.inBlock a::j)) cs) v):EV P k J F (G (Le l f tmps (.code (.block a c)::j)) cs) v:=EV.ctlR D λn cs e _=>by simp[G,o1,o8,Le,Df]
def NU{a}(D:EV P k J F (G (Le l f tmps j) cs) v):EV P k J F (G (Le l f tmps (.inBlock a::j)) cs) v:=EV.ctlR D λn cs e _=>by simp[G,o1,o8,Le,Df]
def rev(tmps:gY):Act:={ tmps,defers:=[] }
def Aez(b):(Le l f tmps b).eval=(rev tmps).eval:=by funext x;cases x<;>rfl
def EV.ropR{g}{b:hZ}(O:g[i]?=lj o)(W:Region.wanted o (iu g tmps)=km)(y:∀c,o.op≠.defer c)(H:∀d,∃x U,GC P J (Fp (rev tmps) o) (v.at d) x U/\EV P k J F (G (Le l f (He o.dst x tmps) (.inRegion g b::j)) cs) U):EV P k J F (G (Le l f tmps (.inRegion g (i::b)::j)) cs) v:=by
 have h:∀l tmps j cs e,Region.wanted o (iu g tmps)=km->o1 P k (G (Le l f tmps (.inRegion g (i::b)::j)) cs) e=stepG.apply P km (Le l f tmps (.inRegion g (i::b)::j)) cs jh (execOp (rev tmps).eval o) e:=λl tmps j cs e W=>by
  have N:=Aez (l:=l) (f:=f) (tmps:=tmps) (.inRegion g (i::b)::j);simp only[Le]at N;cases T:o.op<;>first|exact absurd T (y _)|simp[G,o1,o8,stepG.oper,Frame.oper?,Le,O,W,N,T]
 have I:∀l tmps j x,(Le l f tmps (.inRegion g (i::b)::j)).finish x=Le l f (He o.dst x tmps) (.inRegion g b::j):=λl tmps j x=>by
  unfold od Le He
  grind
 have Z:∀n x,He o.dst (Az n x) (tmps.map (Az n))=(He o.dst x tmps).map (Az n):=λn x=>by
  cases o.dst with
  |none=>rfl
  |some d=>exact Hn _ _ _
 refine EV.step iI λz d=>?_;obtain⟨x,U,Y,m⟩:=H d;have a:Plain (v.at d):=z;refine⟨G (Le l f (He o.dst x tmps) (.inRegion g b::j)) cs,U,⟨iI,Y.plain a,Y.frame a,λn t u p R s=>?_⟩,m⟩;obtain⟨q,S,L,C,r,w,A,B,D⟩:=Y.all a n t u p R s;refine⟨q,seen P f ((Fp (rev tmps) o n).events P u #[]),L,?_,w,A,B,λE N=>D E (mem_seen N)⟩;have K:Region.wanted o (iu g (tmps.map (Az n)))=km:=by rwa[E1]
 have Q:Fp (rev tmps) o n=execOp (rev (tmps.map (Az n))).eval o:=iI;rw[Q]at C⊢;rw[Ep,U4,Ep,U4,←Z];rw[show oo (Df n) (.inRegion g (i::b)::j)=.inRegion g (i::b)::j.map (Df n) from iI,h _ _ _ _ _ K];have M:((Le (sh n l) f (tmps.map (Az n)) (.inRegion g (i::b)::j.map (Df n))).kind==ri)=sd:=iI;rcases r with rfl|⟨rfl,rfl⟩
 ·simp only[stepG.apply,sr,C,bQ,M,I];simp[rq,G,Le,Df]
 ·simp only[stepG.apply,sr,C,bQ,M,I,Eu];simp[rq,G,Le,Df]
def Fe(v:y)(l:Nat)(r:Loop):Prop:=v.1[l]?=lj (.loop r)
def E4(v:y)(l:Nat)(r:Loop):y:={ v with heap:=v.1.setIfInBounds l (.loop r) }
def JE(v l r):(E4 v l r).1.size=iL v.1:=by simp[E4]
def Ahz(n:Z)(r:Loop):Loop:={ r with tmps:=r.tmps.map (Az n),defers:=sh n r.defers }
def IH(r):Cj (.loop r):=λ_ _ _ e=>HL
def Ju{b H}{f:a->b}{k:Loop->Sem a}{q:Loop->Sem b}(l)(E:∀r,Db (λi=>H i∨i=l) P n f (k r) (q (Ahz n r))):Db H P n f (o7 l >>= k) (o7 (sh n l) >>= q):=by
 unfold o7;refine Rf.getObjThen l (λo _=>?_) (λo I O _=>by obtain⟨_,_,_,_,_,_,rfl⟩:=Gx O;exact Rf.never (D7 (Cu iI trivial)));cases o with
 |loop r=>exact E r
 |_=>exact Rf.never (D7 (Cu iI trivial))
def CR(l):Rf P n (Kz n) (do Instr.beginRound l;wy Next.skip) (do Instr.beginRound (sh n l);wy Next.skip):=by
 refine Rf.bind (f:=id) ?_ λ_=>Rf.pure iI;refine Ju l λr=>Rf.bind (Rf.setObj (o:=.loop { r with state:=.busy }) trivial (IH _) rfl l (.inr rfl)) λ_=>?_
 show Db _ P n id _ (match r.state with|.ready=>_|.done=>_|.busy=>_|.exhausted=>_);cases r.state<;>first|exact Rf.pure iI|exact Rf.rt
def NO(l j):Rf P n (Az n) (Instr.endRound l j) (Instr.endRound (sh n l) j):=by
 exact Ju l λr=>Rf.bind (Rf.setObj (o:=.loop { r with state:=if j.isNone then .ready else .done,pending:=j }) trivial (IH _) rfl l (.inr rfl)) λ_=>Rf.pure Ad
def SH(l):Rf P n id (Instr.endLoop l) (Instr.endLoop (sh n l)):=by
 refine Ju l λr=>?_
 show Db _ P n id _ (if r.state==.busy then _ else _);by_cases h:(r.state==.busy)=km
 ·simp only[h,bQ];exact Rf.never (D7 (Jr _))
 ·simp only[h,bR,aR];exact Rf.bind (Rf.setObj (o:=.loop { r with state:=.exhausted }) trivial (IH _) rfl l (.inr rfl)) λ_=>Rf.pure rfl
def NL(n:Z):r8->r8
 |.round l f tmps a b=>.round (sh n l) f (tmps.map (Az n)) a b
 |x=>x
def XN(b:List (Tmp×uo))(a:gY):(b.map λx=>(x.1,Az n x.2)).foldl (λa (x:Tmp×uo)=>a.setIfInBounds x.1 x.2) (a.map (Az n))=(b.foldl (λa (x:Tmp×uo)=>a.setIfInBounds x.1 x.2) a).map (Az n):=by
 induction b generalizing a with
 |nil=>rfl
 |cons x b O=>simp only[bC,fK,Hn,O]
def Ais(a:Array Tmp)(V:gY):(a.zip (V.map (Az n)))=(a.zip V).map λx=>(x.1,Az n x.2):=by
 apply Array.ext';simp[Array.toList_zip,List.zip_map_right]
def Aey(l)(V:gY):Rf P n (NL n) (Instr.yield l V) (Instr.yield (sh n l) (V.map (Az n))):=by
 refine Ju l λr=>?_;have C:(V.map (Az n)).size=V.size:=Ad;rw[C]
 show Db _ P n _ _ (if V.size≠r.params.size then _ else _);by_cases h:V.size≠r.params.size
 ·rw[aL h,aL h];exact Rf.never (D7 (Cu iI trivial))
 ·rw[aM h,aM h];apply Rf.pure
  congr 1
  rw[Ais,←fQ,←fQ,bU];exact XN _ _
def X8(b):Rf P n (oo (O5 n)) (ly b) (ly (sh n b)):=by
 refine Rf.getObjThen b (λo _=>?_) (λo I O _=>by obtain⟨_,_,_,_,_,_,rfl⟩:=Gx O;exact Rf.stuck);cases o with
 |deferred R=>
  cases R with
  |none=>exact Rf.stuck
  |some R=>exact Rf.bind (Rf.setObj (o:=.deferred jh) trivial (λ_ _ _ e=>HL) iI b (.inr iI)) λ_=>Rf.pure iI
 |_=>exact Rf.stuck
def ES(n:Z)(x:Nat×List Deferred):Nat×List Deferred:=(sh n x.1,x.2.map (O5 n))
def IU(fn)(tmps:gY)(a x y):Rf P n (ES n) (vo fn tmps a x y jh) (vo fn (tmps.map (Az n)) a x y jh):=by
 unfold vo;refine Rf.bind (Rf.newObj (o:=.deferred (lj [])) trivial) λr=>?_;refine Rf.bind (f:=ES n) (Rf.pure (by simp[ES,O5,Wn])) λq=>?_;have ⟨d,N⟩:=q;exact Rf.bind (Rf.newObj (o:=.loop { state:=.ready,pending:=jh,fn,tmps,params:=a,assign:=x,body:=y,defers:=d }) trivial) λr=>Rf.pure iI
end
def Ren.grow(n k W)(h:∀i,i<k->sh n i<W):Z:=⟨λi=>if i<k then n.f i else W+(i - k),λ{i j} e=>by
 split at e<;>split at e
 ·exact n.inj e
 ·rename_i h1 h2;have:=h i h1;unfold sh at this;omega
 ·rename_i h1 h2;have:=h j h2;unfold sh at this;omega
 ·omega⟩
def Yl{k W}{h:∀i,i<k->sh n i<W}(V:i<k):sh (n.grow k W h) i=sh n i:=aL V
def UM{k W}{h:∀i,i<k->sh n i<W}(V:k<=i):sh (n.grow k W h) i=W+(i - k):=aM Aa
section
variable {J:gW} {d:y} {X:Array oy}
structure Apart(n)(J:gW)(v:gk)(X:Array oy):Prop where
 cell:∀e∈X,e.write=km->∀i j,e.loc=.cell ⟨sh n i,j,jh⟩->(∃x,v.cell? (iD i j)=lj x)->J (.cell (iD i j))
 obj:∀e∈X,e.write=km->∀i o,e.loc=.obj (sh n i)->v.1[i]?=lj o->Cj o->J (.obj i)
def Ci{r}{c:gY}{e a}(h:w.1[r]?=lj (.cells c e a))(j):w.cell? (iD r j)=c[j]?:=by simp[ur,h]
def LikeO.other(k:Apart n J v X)(g:Dd e d X){o s}(q:v.1[i]?=lj o)(W:e.1[sh n i]?=lj s)(y:E n J i o s):∃I,d.1[sh n i]?=lj I/\E n J i o I:=by
 have row:∀c B(a:q9)b,o=.cells c a b->s=.cells B a b->B.size=c.size->(∀j,¬J (.cell (iD i j))->B[j]?=(c[j]?).map (Az n))->∃I,d.1[sh n i]?=lj I/\E n J i o I:=λc B a b t m N M=>by
  subst t m;obtain⟨R,f,h⟩:=g.row _ _ _ _ W;refine⟨_,f,.inr (.inl ⟨c,R,a,b,iI,iI,h.trans N,λj l=>?_⟩)⟩;rw[←M j l,←Ci f j,←Ci W j];by_cases Y:j<c.size
  ·refine g.cell ⟨sh n i,j,jh⟩ ((aG.1 W).1) λH r K D=>l (k.cell H r K i j D ⟨c[j],?_⟩);rw[Ci q j];exact aO Y
  ·rw[Ci f j,Ci W j,cR Aa,cR Aa]
 rcases y with rfl|⟨c,B,a,b,rfl,rfl,N,M⟩|⟨l,C,f⟩|⟨B,a,b,rfl,rfl⟩
 ·by_cases z:Cj o
  ·by_cases Z:∀H∈X,H.write=km->H.loc≠.obj (sh n i)
   ·exact⟨_,g.obj _ _ W (Gz z) Z,.inl iI⟩
   ·obtain⟨I,f,u,p⟩:=g.5 _ _ W (Gz z);refine⟨I,f,.inr (.inr (.inl ⟨⟨?_,p.trans (Ob n o)⟩,z,u⟩))⟩;refine cH λx=>Z λH r K D=>x (k.obj H r K i o D q z)
  ·cases o with
   |cells c a b=>exact row c (c.map (Az n)) a b iI iI Ad λj _=>aN ..
   |_=>exact absurd (λ_ _ _ a=>by cases a) z
 ·exact row c B a b iI iI N M
 ·obtain⟨I,T,w,A⟩:=g.5 _ _ W f;exact⟨I,T,.inr (.inr (.inl ⟨⟨l.1,A.trans l.2⟩,C,w⟩))⟩
 ·obtain⟨R,f,_⟩:=g.row _ _ _ _ W;exact⟨_,f,.inr (.inr (.inr ⟨_,_,_,iI,iI⟩))⟩
def Sm.lt'(s:Sm n t J v e)(f:Dd e d X):∀i,i<iL v.1->sh n i<iL d.1:=λi V=>aA (s.lt i V) f.size
def Sm.other(s:Sm n t J v e)(W:Wf J h v)(a:Apart n J v X)(f:Dd e d X)(S):Sm (n.grow v.1.size d.1.size (s.lt' f)) S J (v.at d.drawn) d/\Bn (n.grow v.1.size d.1.size (s.lt' f)) h=Bn n h:=by
 have b:(Z.up v.1.size).Ag n (n.grow v.1.size d.1.size (s.lt' f)):=TY λi V=>(Yl V).symm;refine⟨⟨λj _=>?_,λi V=>?_,λi V=>?_,λi o O=>?_,(f.tape.trans s.tape),iI,(f.os.trans s.os),(f.output.trans s.output)⟩,(U2 b W.2).symm⟩
 ·show sh _ (iL v.1+j)=_;rw[UM Aa];omega
 ·have p:i<iL v.1:=V;rw[Yl p];exact s.lt' f i p
 ·have p:iL v.1<=i:=V;rw[UM p];omega
 ·have G:v.1[i]?=lj o:=O;obtain⟨g,C,c⟩:=s.4 i o G;obtain⟨I,T,q⟩:=c.other a f G C;rw[Yl (aG.1 G).1];exact⟨I,T,E.ag b (W.mem i o G) q⟩
end
end Go.Pair

import Derived.Test.YtcbilgmfdgpomaaGreatDoorQ02
set_option linter.all false
noncomputable section
open Go renaming World → qg,Frame → zq,Value → w8,FuncId → pz,Program → vg,Goroutine → o5,stepG → ig,undef → uw,Oper → km,yielded → gu,Item → wx,Next → vi,callFunc → jl,TypeInfo → ud,unwind → y7,Code → oe,Event → yn,Exit → oj,wanted_put → vk,lone → py,TypeId → mi,invoke → pj,World → y
open Option renaming some → ni,none → su,elim → lj
open Bool renaming true → tu,false → o9
open Go.stepG renaming exec → zk
open Go.Frame renaming enter → ow,catches → re,eval_at → qb,finish → sr
open Go.Sem renaming run → p7,runT_eq → s9,events → kg,runT → kj
open Go.World renaming cell? → sw
open Go.Question renaming extern → yl,forced → oc,cut → qi
open Array renaming replicate → pf,size → iS
open Go.CallKind renaming early → pc
open Go.GStep renaming after → th
open Go.Goroutine.mk renaming injEq → z8
open Go.Stepped.next renaming injEq → vj
open Go.Deferred renaming ofValue → uj
open Pure renaming pure → nh
open Go.Obj.cells renaming injEq → yx
open Go.Instr renaming enterLoop → rq,getLoop → zx,takeDeferred → fu
open List renaming map → lp,range → jk,length → iR
open Go.Act renaming put_comm → o3
open Go.Pair renaming Ren → Z,Plain → r,LikeO → E,Rf → F
variable {B O U e v w:y}{Bs:hY}{I:iA}{L:List pz}{M b i j t:Nat}{N Stop:o5->y->Prop}{R g' h:o5}{S:pz→Bool}{T cs z:List zq}{W:pz→Prop}{X fr:zq}{Y:iH}{a:Type}{c:oe}{f fn u:pz}{k:List wx}{l:iG}{main:Bool}{o:km}{x:w8}
def Udb{p:Prop}(h:p:=by
 cases y<;>first|rfl|exact absurd (.inl ⟨_,iP⟩) Z|exact absurd (.inr ⟨_,iP⟩) Z):p:=h
def Odd{p:Prop}(h:p:=by
 simp only[runN,Stepped.next.injEq]at Y;rw[←(Ql Y).1];exact⟨_,iP⟩):p:=h
def Vb9{p:Prop}(h:p:=by
 rw[Bu]at O;obtain⟨x,Z,rfl⟩:=bB.1 O;have:=Q i x Z;split
 ·cases x<;>first|trivial|exact this
 ·exact this):p:=h
def E90{p:Prop}(h:p:=by
 refine⟨I,G,.inr (.inr (.inr ?_))⟩;rcases K with rfl|⟨Q,B,S,R,a,rfl,_⟩|⟨_,z,_⟩|⟨B,S,R,a,rfl⟩
 ·exact⟨_,_,_,iP,iP⟩
 ·grind
 ·exact absurd iP (z _ _ _)
 grind):p:=h
def Kna{p:Prop}(h:p:=by
 simp only[bL,fR,aW]at h;obtain⟨_,_,rfl⟩:=h;exact N4 Ad):p:=h
def Wwv{p:Prop}(h:p:=by
 obtain⟨j,_,Y⟩:=Y;by_cases d:k.bytes=0
 ·simp only[d,bP]at Y;exact u Y (b _)
 ·simp only[d,bQ]at Y;exact u Y (b _)):p:=h
def Juw{p:Prop}(h:p:=by
 simp only[eE,bL,fR,aW]at h;obtain⟨_,_,_,_,rfl⟩:=h;exact N4 Ad):p:=h
def Vj8{p:Prop}(h:p:=by
 have e:(Bw n a).tmps=a.tmps.map (A1 n):=iP
 rwa[e,E1]):p:=h
def Tqd{p:Prop}(h:p:=by
 refine⟨B,Ku n y,(execOp a.eval o).events P v #[],C,?_,T,by rwa[←g],λe h=>⟨k e h,N e h⟩,λe h=>by rwa[←g]⟩;rcases Z with rfl|⟨rfl,rfl⟩
 ·exact .inl iP
 ·exact .inr ⟨iP,iP⟩):p:=h
namespace Go.Pair
variable {K:Act->y->Prop}{Q:oj->Act->y->Prop}{m n q:Z}{s:Sem vi}
open Go Go.Conc
def Dg(n:Z):wx->wx
 |.inRangeFunc l=>.inRangeFunc (sh n l)
 |.endRangeFunc l=>.endRangeFunc (sh n l)
 |.call d w r s=>.call (O6 n d) w r (s.map (A1 n))
 |.extern row args=>.extern row (args.map (A1 n))
 |i=>i
def J5(n:Z):FrameMode->FrameMode
 |.panicking c=>.panicking (c.map λx=>{ x with v:=A1 n x.v })
 |m=>m
def Bm(n:Z)(fr:zq):zq:={ fr with tmps:=fr.tmps.map (A1 n),todo:=fr.todo.map (Dg n),defers:=fr.defers.map (O6 n),mode:=J5 n fr.mode,roundOf:=fr.7.map (sh n) }
def Bn(n:Z)(g:o5):o5:={ g with frame:=Bm n g.frame,callers:=g.callers.map (Bm n) }
def Ep(n X cs):Bn n (G X cs)=G (Bm n X) (cs.map (Bm n)):=iP
section
variable {P:vg}
def Co(h:X.mode=.run):(Bm n X).mode=.run:=by simp[Bm,h,J5]
def IZ(h:X.mode=.returning):(Bm n X).mode=.returning:=by simp[Bm,h,J5]
def Hx(a:iB)(d v):(a.map (A1 n)).setIfInBounds d (A1 n v)=(a.setIfInBounds d v).map (A1 n):=(Array.map_setIfInBounds ..).symm
def Md(X v):(Bm n X).finish (A1 n v)=Bm n (X.finish v):=by
 have ⟨u,a,b,c,f,kind,Y⟩:=X;unfold sr Bm;cases b with
 |nil=>rfl
 |cons x k=>
  cases x with
  |inRegion g l=>
   cases l with
   |nil=>rfl
   |cons i l=>
    simp only[bA,Dg];cases(g[i]?).bind _ with
    |none=>rfl
    |some d=>simp only[Hx]
  |call d w r s=>simp[Dg]
  |extern r e=>simp[Dg]
  |_=>rfl
def Ow(X):(Bm n X).finish uw=Bm n (X.finish uw):=by
 have:=Md (n:=n) X uw
 rwa[Eu]at this
def E1(g)(a:iB):gu g (a.map (A1 n))=gu g a:=by
 funext j
 unfold gu;cases(g[j]?).bind _ with
 |none=>rfl
 |some d=>
  simp only[eT,aN];cases a[d]? with
  |none=>rfl
  |some v=>cases v<;>simp
def Ot(a):∀k:List wx,exitTo a (k.map (Dg n))=(exitTo a k).map (lp (Dg n))
 |[]=>rfl
 |x::k=>by
  cases x with
  |inBlock i=>
   simp only[bA,Dg,exitTo];split
   ·rfl
   ·exact Ot a k
  |_=>exact Ot a k
def Tk(l):∀k:List wx,gotoIn l (k.map (Dg n))=(gotoIn l k).map (lp (Dg n))
 |[]=>rfl
 |x::k=>by
  cases x with
  |inScope b=>
   simp only[bA,Dg,gotoIn];cases findLabel b l with
   |none=>exact Tk l k
   |some r=>rfl
  |_=>exact Tk l k
def Kc(f)(a:iB)(W):ow P f (a.map (A1 n)) W=Bm n (ow P f a W):=by
 unfold ow;cases P.funcs[f]? with
 |none=>simp[Bm,J5,Dg]
 |some u=>
  cases D:u.body with
  |none=>simp[Bm,J5,Dg,Eu,D]
  |some c=>simp[Bm,J5,Dg,Eu,D]
end
structure Hk(P main J g v)(g':o5)(v'):Prop where
 run:g'.status=.running
 plain:Plain v'
 frame:∃es,Da v v' es/\∀e∈es,Ht v' e/\Fb J e
 all:∀n(t:Nat)w,n.Fix P.globals.size->iS v'.1<=t->Sm n t J v w->∃(w':qg)(es fs:Array yn),ig P main (Bn n g) w=.go (Bn n g') w' es/\Sm n t J v' w'/\Da w w' (fs.map (Kt n))/\(∀e∈fs,Ht v' e/\Fb J e)/\∀e∈es,e∈fs.map (Kt n)
section
variable {P:vg} {k:Bool} {J:hZ}
def FT{g}(Y:R.status=.running)(Q:r v)(h:∀n(w:y),n.Fix P.globals.size->ig P k (Bn n g) w=.go (Bn n R) w):Hk P k J g v R v:=
 ⟨Y,Q,⟨#[],.refl _ _,Ad⟩,λn t w p a s=>⟨w,#[],#[],h n w p,s,.refl _ _,Ad,Ad⟩⟩
def BO{g}(Y:R.status=.running)(Q:r v)(h:∀n(w:y),n.Fix P.globals.size->w.tape=v.tape->w.drawn=v.drawn->ig P k (Bn n g) w=.go (Bn n R) { w with drawn:=w.drawn+1 }):Hk P k J g v R { v with drawn:=v.drawn+1 }:=
 ⟨Y,Q,⟨#[],Ox _ _,Ad⟩,λn t w p a s=>⟨_,#[],#[],h n w p s.tape s.drawn,s.drew,(Ox w _).mono Ad,Ad,Ad⟩⟩
def Bf(L:X.mode=.run):ig P k (G X cs) w=zk P k tu X cs su w:=by
 unfold ig G;simp only[L]
def U7(P:vg)(fr:zq)(cs:List zq):vi->o5
 |.value x=>G (fr.finish x) cs
 |.enter f args=>G (ow P f args .normal) (fr::cs)
 |_=>G (fr.finish uw) cs
def known:vi->Prop
 |.value _=>True
 |.skip=>True
 |.enter _ _=>True
 |_=>False
def YO(n X cs){x}(h:known x):U7 P (Bm n X) (cs.map (Bm n)) (Ku n x)=Bn n (U7 P X cs x):=by
 cases x<;>first|exact h.elim|skip
 ·show G _ _=_;rw[Md];rfl
 ·show G _ _=_;rw[Ow];rfl
 ·show G _ _=_;rw[Kc];rfl
def YP(X cs x):(U7 P X cs x).status=.running:=by cases x<;>rfl
def Q7{fr x}(M:(fr.kind==pc)=o9)(I:∃g l a,fr.todo=.inRegion g l::a)(V:ig P k (G fr cs) w=stepG.apply P tu fr cs su s w)(C:s.run P w=.ok x B)(Z:known x):ig P k (G fr cs) w=.go (U7 P fr cs x) B (seen P fr.fn (s.events P w #[])):=by
 have ⟨o,b,c,I⟩:=I;rw[V];cases x<;>first|exact Z.elim|skip
 all_goals
  simp only[stepG.apply,s9,C,bP,M,I];simp[th,G,U7]
def Afg{t:Ren->Sem vi}{x}(E:(fr.kind==pc)=o9)(I:∃c l d,fr.todo=.inRegion c l::d)(Q:Plain v)(Z:known x)(V:∀n(w:qg),n.Fix P.globals.size->ig P k (G (Bm n fr) (cs.map (Bm n))) w=stepG.apply P tu (Bm n fr) (cs.map (Bm n)) su (t n) w)(b:∀n:Ren,n.Fix P.globals.size->Rf P n (Ku n) s (t n))(f:∃n:Ren,n.Fix P.globals.size)(Y:s.run P v=.ok x U)(W:∀e∈s.events P v #[],Fb J e):Hk P k J (G fr cs) v (U7 P fr cs x) U:=by
 have ⟨j,F⟩:=f;have ⟨i,h,a⟩:=(b j F).mono v x U Q Y;refine⟨YP _ _ _,i,⟨_,h,λe N=>⟨a e N,W e N⟩⟩,λn u w p R m=>?_⟩;have ⟨B,C,g,T,y⟩:=(b n p).sim J u v w m Q W x U Y R;have ⟨o,q,r,I⟩:=I;refine⟨B,seen P fr.fn ((t n).events P w #[]),s.events P v #[],?_,T,by rwa[←g],λe N=>⟨a e N,W e N⟩,λe N=>?_⟩
 ·have:=Q7 (fr:=Bm n fr) E ⟨o,q,r.map (Dg n),by simp[Bm,I,Dg]⟩ (V n w p) C (by cases x<;>exact Z);rw[Ep,this,YO n fr cs Z]
  rfl
 ·rw[←g];exact mem_seen N
end
structure Env where
 fn:pz->Prop
 reg:pz->Array w8->Prop
instance:CoeFun Env λ_=>pz->Prop:=⟨Env.fn⟩
def OkN(P:vg)(S:Env):vi->Prop
 |.value _=>True
 |.skip=>True
 |.enter f args=>S f/\S.reg f (ow P f args .normal).tmps
 |_=>False
def Hm(dst:Option Tmp)(v:w8)(tmps:iB):Array w8:=match dst with|some d=>tmps.setIfInBounds d v|none=>tmps
structure Nx(P)(S:Env)(fn o):Prop where
 rf:∀n(fr:zq),n.Fix P.globals.size->S.reg fn fr.tmps->Rf P n (Ku n) (execOp fr.eval o) (execOp (Bm n fr).eval o)
 okn:∀(fr:zq) v x v',S.reg fn fr.tmps->Plain v->(execOp fr.eval o).run P v=.ok x v'->OkN P S x
 put:∀tmps v,S.reg fn tmps->(∀t,o.op=.move (.tmp t)->v=uw∨v=tmps.getD t uw)->S.reg fn (Hm o.dst v tmps)
def PI(P:vg)(S:Env)(fn:pz):oe->Prop
 |.skip=>True
 |.region _ ops _=>∀(i:Nat)o,ops[i]?=ni o->Nx P S fn o
 |.seq a b=>PI P S fn a/\PI P S fn b
 |.cond c a b=>(Eg P.globals.size c=tu/\PI P S fn a)/\PI P S fn b
 |.block _ b=>PI P S fn b
 |.loop b=>PI P S fn b
 |.rangeFunc _ _ _ _=>False
 |.exit _=>True
 |.scope b=>PI P S fn b
 |.label _=>True
 |.goto _=>True
 |.ret=>True
 |.refuse _=>False
def PK(P:vg)(S:Env)(fn:pz):wx->Prop
 |.code c=>PI P S fn c
 |.inBlock _=>True
 |.inLoop b=>PI P S fn b
 |.inScope b=>PI P S fn b
 |.inRegion ops _=>∀(i:Nat)o,ops[i]?=ni o->Nx P S fn o
 |_=>False
structure Pk(P:vg)(S)(fr:zq):Prop where
 defers:fr.defers = []
 kind:fr.kind=.normal
 round:fr.7=su
 fn:∃f,P.funcs[fr.fn]?=ni f
 mode:fr.mode=.run∨fr.mode=.returning
 todo:fr.mode=.run->∀it∈fr.todo,PK P S fr.fn it
 reg:S.reg fr.fn fr.tmps
def KM(fr:zq)(v:w8):Prop:=∀ops i rest k o t,fr.todo=.inRegion ops (i::rest)::k->ops[i]?=ni o->o.op=.move (.tmp t)->v=uw∨v=fr.tmps.getD t uw
def Xr(X):KM X uw:=λ_ _ _ _ _ _ _ _ _=>.inl iP
def GI(P:vg)(S:Env)(up:List zq):Prop:=∀c∈up,Pk P S c/\c.mode=.run/\∀y,KM c y
def UA(P:vg)(S:Env):Prop:=∀f,S f→∃fn c,P.funcs[f]? = ni fn∧(fn.name == "runtime.NumGoroutine")=o9∧fn.body=ni c∧PI P S f c
section
variable {P:vg} {S:Env}
def AL(H:UA P S)(I:S f)(a:iB)(Y:S.reg f (ow P f a .normal).tmps):Pk P S (ow P f a .normal)/\(ow P f a .normal).mode=.run:=by
 have ⟨u,c,C,_,J,T⟩:=H f I;refine⟨⟨iP,iP,iP,⟨u,C⟩,.inl iP,λ_ l V=>?_,Y⟩,iP⟩;simp[ow,C,J]at V;subst V;exact T
def Ack{P g}(d:X.todo=.inRegion g (i::l)::k)(O:g[i]?=ni o):(∀x w B,(execOp X.eval o).run P w=.ok (.value x) B->KM X x)/\∀f b w B,(execOp X.eval o).run P w=.ok (.enter f b) B->∀y,KM X y:=by
 have n:∀{a} {F} {V} {q} {I},X.todo=.inRegion a (F::V)::q->a[F]?=ni I->I=o:=λh e=>by
  grind
 refine⟨λx w B Y a F V q I t C J T=>?_,λf b w B Y y a F V q I t C J T=>?_⟩
 ·obtain rfl:=n C J;unfold execOp at Y;rw[T]at Y;simp[p7,pure]at Y;exact .inr Y.1.symm
 ·obtain rfl:=n C J;unfold execOp at Y;rw[T]at Y;simp[p7,pure]at Y
def Nl(h:Pk P S X)(L:X.mode=.run)(v)(q:KM X v):Pk P S (X.finish v)/\(X.finish v).mode=.run:=by
 have R:=h.todo L;unfold sr;split
 ·rename_i g i a k E;rw[E]at R;refine⟨⟨h.defers,h.kind,h.round,h.fn,h.mode,λ_ e V=>?_,?_⟩,L⟩
  ·simp only[bG]at V;rcases V with rfl|V
   ·exact R (.inRegion g (i::a)) Ad
   grind
  ·cases O:g[i]? with
   |none=>simpa[O] using h.reg
   |some o=>
    have T:=((R (.inRegion g (i::a)) Ad) i o O).put X.tmps v h.reg λt N=>q g i a k o t E O N;simp only[ eT];cases y:o.dst with
    |none=>simpa only[Hm,y] using T
    |some d=>simpa only[Hm,y] using T
 ·rename_i l k E;rw[E]at R;exact(R (.inRangeFunc l) Ad).elim
 ·rename_i k E;rw[E]at R;exact(R .beginRound Ad).elim
 ·rename_i d b r s k E;rw[E]at R;exact(R (.call d b r s) Ad).elim
 ·rename_i r c k E;rw[E]at R;exact(R (.extern r c) Ad).elim
 ·exact⟨h,L⟩
def CV{l}:∀{c B},PI P S u c->findLabel c l=ni B->PI P S u B:=by
 intro c
 induction c with
 |seq a b I C=>
  intro B h e;simp only[findLabel]at e;cases d:findLabel a l with
  |some r=>rw[d]at e;obtain rfl:=aA e;exact⟨I h.1 d,h.2⟩
  |none=>rw[d]at e;exact C h.2 e
 |label V=>
  intro B h e;simp only[findLabel]at e;split at e
  ·obtain rfl:=aA e;trivial
  ·cases e
 |_=>intro B h e;simp[findLabel]at e
def Adp{l}:∀{k q},(∀a∈k,PK P S u a)->gotoIn l k=ni q->∀a∈q,PK P S u a:=by
 intro k
 induction k with
 |nil=>intro q _ e;simp[gotoIn]at e
 |cons x k O=>
  intro q h e;have E:∀a∈k,PK P S u a:=λa V=>h a (by simp[V]);cases x
  case inScope b=>
   simp only[gotoIn]at e;cases D:findLabel b l with
   |none=>grind
   |some r=>
    rw[D]at e;obtain rfl:=aA e;have o:PI P S u b:=h (.inScope b) Ad;intro a V;simp only[bG]at V;rcases V with rfl|rfl|V
    ·exact CV o D
    ·exact o
    ·exact E a V
  all_goals (simp only[gotoIn]at e;exact O E e)
def Ado{n}:∀{k q},(∀l∈k,PK P S u l)->exitTo n k=ni q->∀l∈q,PK P S u l:=by
 intro k
 induction k with
 |nil=>intro q _ e;simp[exitTo]at e
 |cons x k O=>
  intro q h e;cases x
  case inBlock b=>
   simp only[exitTo]at e
   grind
  all_goals (exact O (λl V=>h l (by simp[V])) e)
end
structure Twin(w v:qg):Prop where
 heap:v.1=w.1
 os:v.os=w.os
 output:v.output=w.output
def Twin.refl(w):Twin w w:=⟨iP,iP,iP⟩
def Lx(w v:y)(K:Nat):Prop:=∀j,j<K->v.tape (v.drawn+j)=w.tape (w.drawn+j)
def Py{α}:Ask α->y->Nat
 |.done _,_=>0
 |.ask what range k,w=>if(yl what range).forced then Py (k 0) w else Py (k ((yl what range).cut (w.tape w.drawn (.extern what range)))) { w with drawn:=w.drawn+1 }+1
def Ha{α}(P:vg):Sem α->y->Nat
 |.pure _,_=>0
 |.load m a k,w=>match w.cell? a with|some v=>Ha P (k v) w|none=>match w.farLoad P a (m==.atomic) with|.ok q=>Ha P (k q.1) w|.error _=>0
 |.store m a v k,w=>match w.cell? a with|some _=>Ha P k (w.setCell a v)|none=>match w.farStore P a v (m==.atomic) with|.ok q=>Ha P k q.1|.error _=>0
 |.new o k,w=>Ha P (k w.1.size) { w with heap:=w.1.push o }
 |.shape r k,w=>Ha P (k (w.shape? r)) w
 |.freeze a n k,w=>Ha P k (w.freeze a n)
 |.frozen a k,w=>Ha P (k (w.frozen? a)) w
 |.getObj r k,w=>match w.1[r]? with|some o=>Ha P (k o) w|none=>0
 |.setObj r o k,w=>Ha P k { w with heap:=w.1.setIfInBounds r o }
 |.choose q k,w=>if q.forced then Ha P (k 0) w else Ha P (k (q.cut (w.tape w.drawn q))) { w with drawn:=w.drawn+1 }+1
 |.sys c k,w=>Py (Kernel.perform c w.os) w+Ha P (k (w.sys c).1) (w.sys c).2
 |.program k,w=>Ha P (k P) w
 |.mark _ k,w=>Ha P k w
 |.halt _,_=>0
def Lx.less{K F}(h:Lx w v K)(E:F<=K):Lx w v F:=λj l=>h j Aa
def WO:∀(b:Ask a)w v,Lx w v (Py b w)->(v.ask b).1=(w.ask b).1/\(v.ask b).2 = { v with drawn:=v.drawn+Py b w }/\(w.ask b).2 = { w with drawn:=w.drawn+Py b w }:=by
 intro b
 induction b with
 |done b=>intro w v _;exact⟨iP,iP,iP⟩
 |ask K c k O=>
  intro w v h;unfold World.ask Py;unfold Py at h;by_cases f:(yl K c).forced=tu
  ·grind
  ·simp only[f,aR,bQ]at h⊢;have F:=h 0 Aa;have ⟨S,L,Y⟩:=O ((yl K c).cut (w.tape w.drawn (.extern K c))) { w with drawn:=w.drawn+1 } { v with drawn:=v.drawn+1 } (λj l=>by
    have:=h (j+1) Aa
    grind)
   grind
def UB{α}(w v:y)(K:Nat):Result α->Result α->Prop
 |.ok a w',r=>∃v',r=.ok a v'/\Twin w' v'/\v'.tape=v.tape/\w'.tape=w.tape/\v'.drawn+w.drawn=v.drawn+w'.drawn
 |.halt _ _,r=>∃h v',r=.halt h v'
def HX{P}(h:v.1=w.1)(a b):v.farLoad P a b=w.farLoad P a b:=by
 unfold World.farLoad World.viewLoad World.seen World.noCell;simp only[h]
def Aaa{P}(h:v.1=w.1)(a u k b):v.seen P a u k b=w.seen P a u k b:=by
 unfold World.seen;simp only[h]
def Sn{P}(h:Twin w v)(a x b):(∃e E,w.farStore P a x b=.error e/\v.farStore P a x b=.error E)∨∃Q l,w.farStore P a x b=.ok ({ w with heap:=Q },l)/\v.farStore P a x b=.ok ({ v with heap:=Q },l):=by
 unfold World.farStore World.noCell;rw[h.1];cases D:w.1[a.block]? with
 |none=>exact .inl ⟨_,_,iP,iP⟩
 |some o=>
  cases o with
  |view d u=>
   dsimp only;have c:∀z:y,z.1=w.1->z.viewStore P d u a x b=(w.viewStore P d u a x b).map λq=>({ z with heap:=q.1.1 },q.2):=λz N=>by
    unfold World.viewStore;by_cases R:(!tight P P.depth u)=tu
    ·simp only[R,bP];rfl
    ·simp only[R,aR,bQ];rw[Aaa N,N];cases w.seen P d u a b with
     |error e=>rfl
     |ok q=>
      obtain⟨k,e,r,m,i,p⟩:=q;cases x.bytes? with
      |none=>rfl
      |some g=>
       simp only[bind,Except.bind,pure,Except.pure];by_cases K:ni (iR g)≠Option.map (λx=>iR x) i.bytes?
       ·rw[aJ K,aJ K];rfl
       ·rw[aL K,aL K];split<;>simp_all[Except.map]
   have n:=c w iP;have j:=c v h.1;cases f:w.viewStore P d u a x b with
   |error e=>rw[f]at j;rw[j];exact .inl ⟨_,_,iP,iP⟩
   |ok q=>
    rw[f]at j n;rw[j];refine .inr ⟨q.1.1,q.2,?_,iP⟩
    show Except.ok q=_;exact aK Except.ok (by injection n)
  |_=>exact .inl ⟨_,_,iP,iP⟩
def Xb{P}:∀(s:Sem a)w v,Twin w v->Lx w v (Ha P s w)->UB w v (Ha P s w) (s.run P w) (s.run P v):=by
 intro s
 induction s with
 | pure c=>intro w v R b;exact⟨v,iP,R,iP,iP,Aa⟩
 | load m c k O=>
  intro w v R b;have M:v.cell? c=w.cell? c:=by unfold sw;rw[R.1]
  simp only[p7,Ha]at b⊢;rw[M,HX R.1];cases W:w.cell? c with
  | some y=>grind
  | none=>
   simp only[W]at b⊢;cases hf:w.farLoad P c (m == .atomic) with
   | error e=>exact⟨_,_,iP⟩
   | ok q=>grind
 | store m c y k O=>
  intro w v R b;have M:v.cell? c=w.cell? c:=by unfold sw;rw[R.1]
  have N:v.frozen? c=w.frozen? c:=by unfold World.frozen?;rw[R.1]
  by_cases Z:(∃d,y=.agg d)∨∃d,y=.tuple d
  ·rcases Z with⟨d,rfl⟩|⟨d,rfl⟩ <;> exact⟨_,_,iP⟩
  ·have e:∀z:qg,(Sem.store m c y k).run P z=match z.cell? c with|some _=>if z.frozen? c then .halt (.unsupported (.unsafePointer "a write to bytes that a string shares")) z else k.run P (z.setCell c y)|none=>match z.farStore P c y (m == .atomic) with|.ok (z',_)=>k.run P z'|.error h=>.halt h z:=λz=>by
    exact Udb
   rw[e,e,M,N];simp only[Ha]at b⊢;cases W:w.cell? c with
   | some a1=>
    simp only[W]at b⊢;split
    ·exact⟨_,_,iP⟩
    ·exact O _ _ ⟨(by unfold World.setCell;rw[R.1]),R.os,R.output⟩ b
   | none=>
    simp only[W]at b⊢;rcases Sn R c y (m == .atomic) (P:=P) with⟨S,L,C,J⟩|⟨Q,l,C,J⟩
    ·rw[C,J];exact⟨_,_,iP⟩
    ·rw[C]at b;rw[C,J];exact O { w with heap:=Q } { v with heap:=Q } ⟨rfl,R.os,R.output⟩ b
 | new o k O=>
  intro w v R b;simp only[p7,Ha]at b⊢;rw[R.1];exact O _ { w with heap:=w.1.push o } { v with heap:=w.1.push o } ⟨rfl,R.os,R.output⟩ b
 | shape r k O=>
  intro w v R b;have e:v.shape? r=w.shape? r:=by unfold World.shape?;rw[R.1]
  simp only[p7,Ha]at b⊢;rw[e];exact O _ w v R b
 | freeze c l k O=>
  intro w v R b;have e:(v.freeze c l).1=(w.freeze c l).1/\(v.freeze c l).os=v.os/\(v.freeze c l).output=v.output/\(w.freeze c l).os=w.os/\(w.freeze c l).output=w.output/\(v.freeze c l).tape=v.tape/\(w.freeze c l).tape=w.tape/\(v.freeze c l).drawn=v.drawn/\(w.freeze c l).drawn=w.drawn:=by
   unfold World.freeze;split
   ·exact⟨R.1,iP,iP,iP,iP,iP,iP,iP,iP⟩
   ·rw[R.1];exact⟨iP,iP,iP,iP,iP,iP,iP,iP,iP⟩
  obtain⟨S,L,Y,B,F,p,E,D,t⟩:=e;simp only[p7,Ha]at b⊢;have:=O (w.freeze c l) (v.freeze c l) ⟨S,by rw[L,B,R.os],by rw[Y,F,R.output]⟩ (λj g=>by rw[p,E,D,t];exact b j g);unfold UB at this⊢
  rwa[p,E,D,t]at this
 | frozen c k O=>
  intro w v R b;have e:v.frozen? c=w.frozen? c:=by unfold World.frozen?;rw[R.1]
  simp only[p7,Ha]at b⊢;rw[e];exact O _ w v R b
 | getObj r k O=>
  intro w v R b;simp only[p7,Ha]at b⊢;rw[R.1];cases W:w.1[r]? with
  | none=>exact⟨_,_,iP⟩
  | some o=>
   simp only[W]at b;cases o <;> first|exact⟨_,_,iP⟩|exact O _ w v R b
 | setObj r o k O=>
  intro w v R b;simp only[p7,Ha]at b⊢;rw[R.1];cases W:w.1[r]? with
  | none=>exact⟨_,_,iP⟩
  | some G=>cases G <;> first|exact⟨_,_,iP⟩|exact O { w with heap:=w.1.setIfInBounds r o } { v with heap:=w.1.setIfInBounds r o } ⟨rfl,R.os,R.output⟩ b
 | choose q k O=>
  intro w v R b;simp only[p7,Ha]at b⊢;by_cases u:q.forced=tu
  ·simp only[u,bP]at b⊢;exact O _ w v R b
  ·simp only[u,aR,bQ]at b⊢;have H:v.tape v.drawn=w.tape w.drawn:=b 0 Aa;rw[H];have:=O (q.cut (w.tape w.drawn q)) { w with drawn:=w.drawn+1 } { v with drawn:=v.drawn+1 } ⟨R.1,R.os,R.output⟩ (λj g=>by
    have:=b (j+1) Aa
    show v.tape (v.drawn+1+j)=w.tape (w.drawn+1+j)
    rwa[show v.drawn+1+j=v.drawn+(j+1) by omega,show w.drawn+1+j=w.drawn+(j+1) by omega])
   revert this;unfold UB;split
   ·rintro⟨U,C,J,T,i,n⟩;exact⟨U,C,J,T,i,by simp only at n;omega⟩
   ·exact id
 | sys d k O=>
  intro w v R b;simp only[p7,Ha]at b⊢;obtain⟨S,L,Y⟩:=WO (Kernel.perform d w.os) w v (b.less (Nat.le_add_right _ _));have X:(v.sys d).1=(w.sys d).1/\Twin (w.sys d).2 (v.sys d).2/\(v.sys d).2.tape=v.tape/\(w.sys d).2.tape=w.tape/\∃f,f<=Py (Kernel.perform d w.os) w/\(v.sys d).2.drawn=v.drawn+f/\(w.sys d).2.drawn=w.drawn+f:=by
   unfold World.sys;rw[R.os];have I:v.ask (Kernel.perform d w.os)=((w.ask (Kernel.perform d w.os)).1,{ v with drawn:=v.drawn+Py (Kernel.perform d w.os) w }):=Prod.ext S L;have ew:w.ask (Kernel.perform d w.os)=((w.ask (Kernel.perform d w.os)).1,{ w with drawn:=w.drawn+Py (Kernel.perform d w.os) w }):=Prod.ext rfl Y;rw[I,ew];generalize (w.ask (Kernel.perform d w.os)).1=r;obtain⟨r,os⟩:=r;cases r <;> first
    | exact⟨iP,⟨R.1,iP,R.output⟩,iP,iP,_,aB _,iP,iP⟩
    | exact⟨iP,R,iP,iP,0,bE _,iP,iP⟩
  obtain⟨s1,s2,V,K,f,hd,x,A⟩:=X;rw[s1];have:=O (w.sys d).1 (w.sys d).2 (v.sys d).2 s2 (λj g=>by
   rw[V,K,x,A];have:=b (f+j) Aa
   rwa[eM,eM])
  revert this;unfold UB;split
  ·rintro⟨U,C,J,T,i,n⟩;exact⟨U,C,J,T.trans V,i.trans K,by rw[x,A]at n;omega⟩
  ·exact id
 | program k O=>intro w v R b;exact O P w v R b
 | mark m k O=>intro w v R b;exact O w v R b
 | halt h=>intro w v R b;exact⟨_,_,iP⟩
def BY{P}:∀s(w:qg)X(c:a)B,s.run P w=.ok c B->(∀f∈s.events P w X,f.loc≠.output)->B.drawn=w.drawn+Ha P s w:=by
 intro s
 induction s with
 | pure c=>intro w X x B Y _;cases Y;rfl
 | load m c k O=>
  intro w X x B Y N;simp only[p7,Ha]at Y⊢;unfold kg at N;simp only[kj]at N;cases W:w.cell? c with
  | some y=>simp only[W]at Y N⊢;exact O y w _ x B Y N
  | none=>
   simp only[W]at Y N⊢;cases I:w.farLoad P c (m == .atomic) with
   | error f=>grind
   | ok q=>simp only[I]at Y N⊢;exact O q.1 w _ x B Y N
 | store m c y k O=>
  intro w X x B Y N;by_cases Z:(∃d,y=.agg d)∨∃d,y=.tuple d
  ·rcases Z with⟨d,rfl⟩|⟨d,rfl⟩ <;> cases Y
  ·have e:∀z:qg,(Sem.store m c y k).run P z=match z.cell? c with|some _=>if z.frozen? c then .halt (.unsupported (.unsafePointer "a write to bytes that a string shares")) z else k.run P (z.setCell c y)|none=>match z.farStore P c y (m == .atomic) with|.ok (T,_)=>k.run P T|.error h=>.halt h z:=λz=>by
    exact Udb
   have L:∀z X,(Sem.store m c y k).runT P z X=match z.cell? c with|some _=>if z.frozen? c then(.halt (.unsupported (.unsafePointer "a write to bytes that a string shares")) z,X) else k.runT P (z.setCell c y) (X.push ⟨.cell c,tu,m == .atomic⟩)|none=>match z.farStore P c y (m == .atomic) with|.ok (T,b)=>k.runT P T (X++b.toArray.map (⟨.cell ·,tu,m == .atomic⟩))|.error h=>(.halt h z,X):=λz X=>by
    exact Udb
   rw[e]at Y;unfold kg at N;rw[L]at N;simp only[Ha];cases W:w.cell? c with
   | some z=>
    simp only[W]at Y N⊢;split at Y
    ·cases Y
    ·rename_i j;simp only[j,bQ,aR]at N;exact O (w.setCell c y) _ x B Y N
   | none=>
    simp only[W]at Y N⊢;cases I:w.farStore P c y (m == .atomic) with
    | error f=>rw[I]at Y;cases Y
    | ok q=>
     have i:q.1.drawn=w.drawn:=by
      rcases Sn (Twin.refl w) c y (m == .atomic) (P:=P) with⟨e,L,C,J⟩|⟨Q,l,C,J⟩
      ·rw[C]at I;cases I
      ·rw[C]at I;cases I;rfl
     simp only[I]at Y N⊢;have:=O q.1 _ x B Y N;rw[this,i]
 | new o k O=>intro w X x B Y N;exact O _ { w with heap:=w.1.push o } X x B Y N
 | shape r k O=>intro w X x B Y N;exact O _ w X x B Y N
 | freeze c l k O=>
  intro w X x B Y N;have:=O (w.freeze c l) X x B Y N;rw[this];have i:(w.freeze c l).drawn=w.drawn:=by unfold World.freeze;split <;> rfl
  rw[i];rfl
 | frozen c k O=>intro w X x B Y N;exact O _ w X x B Y N
 | getObj r k O=>
  intro w X x B Y N;simp only[p7,Ha]at Y⊢;unfold kg at N;simp only[kj]at N;cases W:w.1[r]? with
  | none=>rw[W]at Y;cases Y
  | some o=>
   rw[W]at Y N;cases o <;> first|(cases Y;done)|exact O _ w _ x B Y N
 | setObj r o k O=>
  intro w X x B Y N;simp only[p7,Ha]at Y⊢;unfold kg at N;simp only[kj]at N;cases W:w.1[r]? with
  | none=>rw[W]at Y;cases Y
  | some p=>
   rw[W]at Y N;cases p <;> first|(cases Y;done)|exact O { w with heap:=w.1.setIfInBounds r o } _ x B Y N
 | choose q k O=>
  intro w X x B Y N;simp only[p7,Ha]at Y⊢;unfold kg at N;simp only[kj]at N;by_cases g:q.forced=tu
  ·simp only[g,bP]at Y N⊢;exact O _ w X x B Y N
  ·simp only[g,aR,bQ]at Y N⊢;have:=O _ _ X x B Y N;rw[this]
   show w.drawn+1+_=_;omega
 | sys d k O=>
  intro w X x B Y N;exfalso;have e:(Sem.sys d k).events P w X=(k (w.sys d).1).events P (w.sys d).2 (X.push ⟨.output,tu,o9⟩):=iP;rw[e,(λs w X=>Sem.events_acc P s w X)]at N;exact N ⟨.output,tu,o9⟩ Ad iP
 | program k O=>intro w X x B Y N;exact O P w X x B Y N
 | mark m k O=>
  intro w X x B Y N;exact O w (X.push ⟨.mark m,o9,tu⟩) x B Y N
 | halt h=>intro w X x B Y;cases Y
def Kn(J:hZ)(v:y):Prop:=∀e,Ht v e->Fb J e
structure Pp(J:hZ)(B):Prop where
 cell:∀a:Addr,J (.cell a)->a.block<B
 obj:∀r:Nat,J (.obj r)->r<B
def Pp.mono{J B G}(h:Pp J B)(k:B<=G):Pp J G:=⟨λa d=>aC (h.cell a d) k,λr Y=>aC (h.obj r Y) k⟩
def Kn.frame{J v X}(h:Kn J v)(K:Pp J v.1.size)(f:Da v U X):Kn J U:=by
 intro e N W;obtain⟨l,wr,k⟩:=e;cases l with
 |cell a=>
  obtain⟨x,Z⟩:=N;have Y:=K.cell a W;have O:v.1[a.block]?=ni v.1[a.block]:=aO Y;generalize v.1[a.block]=o at O;refine h ⟨.cell a,wr,k⟩ ?_ W;by_cases z:Ci o
  ·obtain⟨I,G,j,_⟩:=f.5 _ _ O z;unfold sw at Z;rw[G]at Z;cases I with
   |cells c e i=>exact(j c e i iP).elim
   |_=>simp at Z
  ·cases o with
   |cells c e i=>
    obtain⟨B,n,p⟩:=f.row _ _ _ _ O;unfold sw at Z;rw[n]at Z;cases d:a.3 with
    |some s=>simp[d]at Z
    |none=>
     simp only[d,eY,aR,bQ]at Z;have t:=(aH.1 Z).1;refine⟨c[a.off]' Aa,?_⟩;unfold sw
     grind
   |_=>exact(z (λ_ _ _ e=>BB)).elim
 |obj r=>
  obtain⟨I,G,j,n⟩:=N;have Y:=K.obj r W;have O:v.1[r]?=ni v.1[r]:=aO Y;generalize v.1[r]=o at O;refine h ⟨.obj r,wr,k⟩ ?_ W;by_cases z:Ci o
  ·obtain⟨u,g,T,q⟩:=f.5 _ _ O z;rw[G]at g;obtain rfl:=aA g;exact⟨o,O,z,λe=>n (q.trans e)⟩
  ·cases o with
   |cells c e i=>
    obtain⟨B,g,_⟩:=f.row _ _ _ _ O;rw[G]at g;obtain rfl:=aA g;exact(j _ _ _ iP).elim
   |_=>exact(z (λ_ _ _ e=>BB)).elim
 |mark m=>exact h ⟨.mark m,wr,k⟩ N W
 |output=>exact N.elim
 |goroutines=>exact N.elim
def Sr:∃n:Z,∀G,n.Fix G:=⟨⟨id,λh=>h⟩,λG i _=>rfl⟩
inductive Om(P S main J K fr up z z' w v):Prop
 |bad (o:Outcome) (v') (h:(ig P tu (G fr (up++z')) v).bare=.ended o v')
 |panic (chain) (v') (h:(ig P tu (G fr (up++z')) v).bare=.go (G (fr.raise chain) (up++z')) v')
 |go (fr') (up') (w' v') (hw:Hk P main J (G fr (up++z)) w (G fr' (up'++z)) w') (hs:(ig P tu (G fr (up++z')) w).bare=.go (G fr' (up'++z')) w') (hv:(ig P tu (G fr (up++z')) v).bare=.go (G fr' (up'++z')) v')
   (hf:Pk P S fr') (hu:GI P S up') (ht:Twin w' v') (wt:w'.tape=w.tape) (vt:v'.tape=v.tape) (vd:v'.drawn=v.drawn+K)
section
variable {P:vg} {S:Env} {k:Bool} {J:hZ}
def Om.ctl{fr' a}(Y:∀n(m:Bool)cs(w:y),n.Fix P.globals.size->ig P m (G (Bm n X) cs) w=.go (G (Bm n fr') cs) w)(h:∀cs(w:y),ig P tu (G X cs) w=.go (G fr' cs) w)(Q:Plain w)(R:Twin w v)(I:Pk P S fr')(r:GI P S a):Om P S k J 0 X a z T w v:=
 .go fr' a w v (FT iP Q λn w p=>Y n k _ w p) Aay Aay I r R iP iP iP
def EU(h:Pk P S X){k}(E:∀l∈k,PK P S X.fn l):Pk P S { X with todo:=k }:=⟨h.defers,h.kind,h.round,h.fn,h.mode,λ_=>E,h.reg⟩
def MX(h:Pk P S X):Pk P S { X with mode:=.returning }:=⟨h.defers,h.kind,h.round,h.fn,.inr rfl,λe=>BB,h.reg⟩
def Om.lost{a K}{f:y->Outcome}(h:∀cs w,ig P tu (G X cs) w=.ended (f w) w):Om P S k J K X a z T w v:=
 .bad _ v Aay
def Z8{x}(h:OkN P S x):known x:=by cases x<;>first|trivial|exact h.elim
def AX{g k}(h:X.todo=.inRegion g l::k):(Bm n X).todo=.inRegion g l::k.map (Dg n):=by simp[Bm,h,Dg]
def ZK(h:X.7=su):(Bm n X).7=su:=by simp[Bm,h]
def Twin.plain(h:Twin w v)(Q:r w):r v:=λi o O=>Q i o (by rwa[←h.1])
def OQ{m}(L:X.mode=.run)(Y:X.7=su){g k}(I:X.todo=.inRegion g (i::l)::k)(O:g[i]?=ni o)(v:Region.wanted o (gu g X.tmps)=tu):ig P m (G X cs) w=stepG.apply P tu X cs su (execOp X.eval o) w:=by
 rw[Bf L];simp[zk,I,O,v,stepG.oper,Frame.oper?,Y]
def Om.op(hS:UA P S){t}(b:Pk P S X)(L:X.mode=.run)(r:GI P S t){g a}(I:X.todo=.inRegion g (i::l)::a)(O:g[i]?=ni o)(aa:Region.wanted o (gu g X.tmps)=tu)(Z:Nx P S X.fn o)(Q:Plain w)(D:Kn J w)(hl:Pp J w.1.size)(R:Twin w v)(ha:Lx w v (Ha P (execOp X.eval o) w)):Om P S k J (Ha P (execOp X.eval o) w) X t z T w v:=by
 obtain⟨F,H⟩:=Sr;have K:(X.kind==pc)=o9:=by rw[b.kind];rfl
 have W:=Z.rf F X (H _) b.reg;have e:=Xb (P:=P) (execOp X.eval o) w v R ha;have V:∀cs w,ig P tu (G X cs) w=stepG.apply P tu X cs su (execOp X.eval o) w:=λcs w=>OQ L b.round I O aa;cases c:(execOp X.eval o).run P w with
 |halt ab d=>
  rw[c]at e;obtain⟨Y,U,q⟩:=e;have D:=W.halts v Y U (R.plain Q) q;cases Y with
  |stuck s=>exact .bad _ U SE
  |unsupported a7=>cases a7<;>first|exact D.elim|exact .bad _ U SE
  |panic x=>
   refine .panic [{ v:=x,recovered:=o9 }] U ?_;rw[V];simp only[stepG.apply,s9,q,bP]
   rfl
  |_=>exact D.elim
 |ok x d=>
  rw[c]at e;obtain⟨U,q,h,m,j,dd⟩:=e;obtain⟨m1,m2,m3⟩:=W.mono w x d Q c;have B:=Z.2 X w x d b.reg Q c;have hd:=BY (execOp X.eval o) w #[] x d c (λf N O=>by have:=m3 f N;unfold Ht at this;grind);have E:∀z,Hk P k J (G X (t++z)) w (U7 P X (t++z) x) d:=λz=>Afg (t:=λn=>execOp (Bm n X).eval o) K ⟨_,_,_,I⟩ Q (Z8 B)
   (λn w hG=>OQ (Co L) (ZK b.round) (AX I) O (by rwa[show(Bm n X).tmps=X.tmps.map (A1 n) from iP,E1]))
   (λn hG=>Z.rf n X hG b.reg) ⟨F,H _⟩ c (λf N=>D.frame hl m2 f (m3 f N))
  have p:∀T,(ig P tu (G X (t++T)) v).bare=.go (U7 P X (t++T) x) U:=λT=>by
   rw[Q7 K ⟨_,_,_,I⟩ (V _ _) q (Z8 B)];rfl
  have A:∀T,(ig P tu (G X (t++T)) w).bare=.go (U7 P X (t++T) x) d:=λT=>by
   rw[Q7 K ⟨_,_,_,I⟩ (V _ _) c (Z8 B)];rfl
  have u:U.drawn=v.drawn+Ha P (execOp X.eval o) w:=Aa;have a1:=Ack (P:=P) I O;cases x with
  |value x=>
   obtain⟨C,h2⟩:=Nl b L x (a1.1 x _ _ c);exact .go (X.finish x) t d U (E z) (A T) (p T) C r h j m u
  |skip=>
   obtain⟨C,h2⟩:=Nl b L uw (Xr _);exact .go (X.finish uw) t d U (E z) (A T) (p T) C r h j m u
  |enter a6 y=>
   obtain⟨C,h2⟩:=AL (P:=P) hS B.1 y B.2;refine .go (ow P a6 y .normal) (X::t) d U (E z) (A T) (p T) C (λa8 M=>?_) h j m u;simp only[bG]at M;rcases M with rfl|M
   ·exact⟨b,L,a1.2 a6 y _ _ c⟩
   ·exact r a8 M
  |_=>exact B.elim
def ZY(hS:UA P S){up}(g:Pk P S X)(L:X.mode=.run)(r:GI P S up)(w)(Q:Plain w)(hb:Kn J w)(hl:Pp J w.1.size):∃K,∀z T(v:qg),Twin w v->Lx w v K->Om P S k J K X up z T w v:=by
 have Y:=g.todo L;cases I:X.todo with
 |nil=>
  refine⟨0,λz T v R _=>Om.ctl (fr':={ X with mode:=.returning }) (λn m cs w p=>?_) (λcs w=>?_) Q R (MX g) r⟩
  ·rw[Bf (Co L)];simp[zk,I,g.round,G,Bm,J5]
  ·rw[Bf L];simp[zk,I,g.round,G]
 |cons x a=>
  rw[I]at Y;have E:∀A∈a,PK P S X.fn A:=λA V=>Y A (by simp[V]);have Z:PK P S X.fn x:=Y x Ad;have u:∀{y},PK P S X.fn y->∀A∈y::a,PK P S X.fn A:=λhy A V=>by
   grind
  have j:∀{y W},PK P S X.fn y->PK P S X.fn W->∀A∈y::W::a,PK P S X.fn A:=λhy a7 A V=>by
   grind
  have q:∀{k'},(∀A∈k',PK P S X.fn A)->(∀n(m:Bool)cs(w:qg),n.Fix P.globals.size->ig P m (G (Bm n X) cs) w=.go (G (Bm n { X with todo:=k' }) cs) w)->(∀cs w,ig P tu (G X cs) w=.go (G { X with todo:=k' } cs) w)->∃K,∀z T(v:qg),Twin w v->Lx w v K->Om P S k J K X up z T w v:=
   λai C D=>⟨0,λz T v R _=>Om.ctl C D Q R (EU g ai) r⟩
  have H:(∀n(m:Bool)cs(w:qg),n.Fix P.globals.size->ig P m (G (Bm n X) cs) w=.go (G ((Bm n X).finish uw) cs) w)->(∀cs w,ig P tu (G X cs) w=.go (G (X.finish uw) cs) w)->∃K,∀z T(v:qg),Twin w v->Lx w v K->Om P S k J K X up z T w v:=λC D=>by
   obtain⟨g1,g2⟩:=Nl g L uw (Xr _);exact⟨0,λz T v R _=>Om.ctl (fr':=X.finish uw) (λn m cs w p=>by rw[C n m cs w p,Ow]) D Q R g1 r⟩
  have B:(∃o,∀cs w,ig P tu (G X cs) w=.ended o w)->∃K,∀z T(v:qg),Twin w v->Lx w v K->Om P S k J K X up z T w v:=fun⟨o,h⟩=>⟨0,λz T v _ _=>Om.lost (f:=λ_=>o) h⟩;cases x with
  |code d=>
   cases d with
   |skip=>exact q E Ai3 λcs w=>by rw[Bf L];simp[zk,I,G,L]
   |label l=>exact q E Ai3 λcs w=>by rw[Bf L];simp[zk,I,G,L]
   |ret=>
    refine⟨0,λz T v R _=>Om.ctl (fr':={ X with mode:=.returning }) (λn m cs w p=>?_) (λcs w=>?_) Q R (MX g) r⟩
    ·rw[Bf (Co L)];simp[zk,I,g.round,G,Bm,J5,Dg]
    ·rw[Bf L];simp[zk,I,g.round,G]
   |seq i b=>exact q (k':=.code i::.code b::a) (j Z.1 Z.2) Ai3 λcs w=>by rw[Bf L];simp[zk,I,G,L]
   |cond d i b=>
    by_cases M:∃t,X.eval d=.bool t
    ·obtain⟨t,M⟩:=M;refine q (k':=.code (if t then i else b)::a) (u ?_) (λn m cs w p=>?_) λcs w=>by rw[Bf L];simp[zk,I,G,L,M]
     ·cases t
      ·exact Z.2
      ·exact Z.1.2
     ·have N:(Bm n X).eval d=.bool t:=by rw[Qd p X (Bm n X) iP d Z.1.1,M];simp
      have ae:(Bm n X).todo=.code (.cond d i b)::a.map (Dg n):=by simp[Bm,I,Dg]
      rw[Bf (Co L)];simp only[zk,ae,N];simp[G,Bm,I,Dg,J5,L]
    ·apply B;cases N:X.eval d with
     |bool t=>exact absurd ⟨t,N⟩ M
     |_=>exact⟨_,λcs w=>by rw[Bf L];simp only[zk,I,N];rfl⟩
   |block e b=>exact q (k':=.code b::.inBlock e::a) (j Z trivial) Ai3 λcs w=>by rw[Bf L];simp[zk,I,G,L]
   |loop b=>exact q (k':=.code b::.inLoop b::a) (j Z Z) Ai3 λcs w=>by rw[Bf L];simp[zk,I,G,L]
   |scope b=>exact q (k':=.code b::.inScope b::a) (j Z Z) Ai3 λcs w=>by rw[Bf L];simp[zk,I,G,L]
   |exit e=>
    cases N:exitTo e a with
    |some k'=>exact q (k':=k') (Ado E N) (λn m cs w _=>by rw[Bf (Co L)];simp[zk,I,G,L,Bm,Dg,J5,Ot,N]) λcs w=>by rw[Bf L];simp[zk,I,G,L,N]
    |none=>exact B ⟨_,λcs w=>by rw[Bf L];simp only[zk,I,N,lj,g.round];rfl⟩
   |goto l=>
    cases N:gotoIn l a with
    |some k'=>exact q (k':=k') (Adp E N) (λn m cs w _=>by rw[Bf (Co L)];simp[zk,I,G,L,Bm,Dg,J5,Tk,N]) λcs w=>by rw[Bf L];simp[zk,I,G,L,N]
    |none=>exact B ⟨_,λcs w=>by rw[Bf L];simp only[zk,I,N,lj,g.round];rfl⟩
   |rangeFunc f ps i b=>exact Z.elim
   |refuse s=>exact Z.elim
   |region e c ad=>
    cases ad with
    |false=>exact q (k':=.inRegion c (jk c.size)::a) (u Z) Ai3 λcs w=>by rw[Bf L];simp[zk,I,G,L]
    |true=>
     refine⟨1,λz T v R ag=>?_⟩;have e0:v.tape v.drawn=w.tape w.drawn:=ag 0 Aa;have U:∀cs (w:qg),ig P tu (G X cs) w=.go (G { X with todo:=.inRegion c (Region.schedule (P.follows .mixedOrders) c (w.tape w.drawn (.order X.fn e)))::a } cs) { w with drawn:=w.drawn+1 }:=by
      intro cs w;rw[Bf L];simp[zk,I,G,L,choose,p7,oc,qi]
     refine .go { X with todo:=.inRegion c (Region.schedule (P.follows .mixedOrders) c (w.tape w.drawn (.order X.fn e)))::a } up { w with drawn:=w.drawn+1 } { v with drawn:=v.drawn+1 } (BO rfl Q λn w' p a6 ah=>?_) ?_ ?_ (EU g (u Z)) r ⟨R.1,R.os,R.output⟩ rfl rfl rfl
     ·rw[Ep,Bf (Co L)];simp[zk,I,G,L,Bm,Dg,J5,Bn,choose,p7,oc,qi,a6,ah]
     ·rw[U];rfl
     ·rw[U,e0];rfl
  |inBlock e=>exact q E Ai3 λcs w=>by rw[Bf L];simp[zk,I,G,L]
  |inScope b=>exact q E Ai3 λcs w=>by rw[Bf L];simp[zk,I,G,L]
  |inLoop b=>exact q (k':=.code b::.inLoop b::a) (j Z Z) Ai3 λcs w=>by rw[Bf L];simp[zk,I,G,L]
  |inRegion c l=>
   cases l with
   |nil=>exact q E Ai3 λcs w=>by rw[Bf L];simp[zk,I,G,L]
   |cons a1 l=>
    cases O:c[a1]? with
    |none=>exact H (λn m cs w _=>by rw[Bf (Co L)];simp[zk,AX I,G,O]) λcs w=>by rw[Bf L];simp[zk,I,G,O]
    |some o=>
     cases F:Region.wanted o (gu c X.tmps) with
     |false=>exact H (λn m cs w _=>by rw[Bf (Co L)];simp[zk,AX I,G,O,show(Bm n X).tmps=X.tmps.map (A1 n) from iP,E1,F]) λcs w=>by rw[Bf L];simp[zk,I,G,O,F]
     |true=>exact⟨_,λz T v R ha=>Om.op hS g L r I O F (Z a1 o O) Q hb hl R ha⟩
  |_=>exact Z.elim
end
section
variable {P:vg} {S:Env} {k:Bool} {J:hZ}
def O8(u)(a:iB):F P n (A1 n) (results u a) (results u (a.map (A1 n))):=by
 have h:=F.arrayMapM (P:=P) (n:=n) (H:=λ_=>False) (f:=id) (k:=fun|ResultVar.tmp t=>(pure (a.getD t uw):Sem w8)|.cell b t=>do loadVar t (←asAddr (a.getD b uw))) (k':=fun|ResultVar.tmp t=>(pure ((a.map (A1 n)).getD t uw):Sem w8)|.cell b t=>do loadVar t (←asAddr ((a.map (A1 n)).getD b uw))) (λx=>by
  cases x with
  |tmp t=>exact F.pure (Zy _ _)
  |cell b t=>
   show F P n _ _ (do loadVar t (←asAddr ((a.map (A1 n)).getD b uw)));rw[Zy];exact F.bind (F.asAddr _) λ_=>F.loadVar _ _) u.results
 rw[Array.map_id]at h;refine F.bind h λc=>F.pure ?_;by_cases q:c.size=1
 ·simp[q]
 ·simp[q]
def O9{fr c cs m u a}(L:fr.mode=.returning)(y:fr.defers = [])(E:fr.kind=.normal)(I:P.funcs[fr.fn]?=ni u)(Y:(results u fr.tmps).run P w=.ok a B):ig P m (G fr (c::cs)) w=.go (G (c.finish a) cs) B (seen P fr.fn ((results u fr.tmps).events P w #[])):=by
 have V:ig P m (G fr (c::cs)) w=y7 P m fr (c::cs) su w:=by unfold ig G;simp only[L]
 rw[V];simp only[y7,y,L,I,s9,Y,doReturn,E];simp[th,G]
def stepR_ret{c u a}(L:fr.mode=.returning)(y:fr.defers = [])(E:fr.kind=.normal)(I:P.funcs[fr.fn]?=ni u)(Q:r v)(Y:(results u fr.tmps).run P v=.ok a U)(W:∀e∈(results u fr.tmps).events P v #[],Fb J e):Hk P k J (G fr (c::cs)) v (G (c.finish a) cs) U:=by
 obtain⟨l,_⟩:=Sr;obtain⟨i,f,b⟩:=(O8 (P:=P) (n:=l) u fr.tmps).mono v a U Q Y;refine⟨iP,i,⟨_,f,λe N=>⟨b e N,W e N⟩⟩,λn t w p R s=>?_⟩;obtain⟨B,C,d,T,q⟩:=(O8 (P:=P) (n:=n) u fr.tmps).sim J t v w s Q W a U Y R;refine⟨B,seen P fr.fn ((results u (fr.tmps.map (A1 n))).events P w #[]),(results u fr.tmps).events P v #[],?_,T,by rwa[←d],λe N=>⟨b e N,W e N⟩,λe N=>by rw[←d];exact mem_seen N⟩;have:=O9 (P:=P) (m:=k) (fr:=Bm n fr) (c:=Bm n c) (cs:=cs.map (Bm n)) (IZ L) (by simp[Bm,y]) E I C;rw[Ep,bA,this,Md]
 rfl
def ZO(H:UA P S){c j}(f:Pk P S X)(L:X.mode=.returning)(r:GI P S (c::j))(w)(Q:Plain w)(D:Kn J w)(n:Pp J w.1.size):∃K,∀z T(v:qg),Twin w v->Lx w v K->Om P S k J K X (c::j) z T w v:=by
 obtain⟨u,I⟩:=f.fn;obtain⟨l,_⟩:=Sr;obtain⟨M,t,i⟩:=r c Ad;have b:=O8 (P:=P) (n:=l) u X.tmps;refine⟨Ha P (results u X.tmps) w,λz T v R m=>?_⟩;have g:=Xb (P:=P) (results u X.tmps) w v R m;have V:∀cs w,ig P tu (G X cs) w=y7 P tu X cs su w:=λcs w=>by unfold ig G;simp only[L]
 cases s:(results u X.tmps).run P w with
 |halt E B=>
  rw[s]at g;obtain⟨d,U,q⟩:=g;have D:=b.halts v d U (R.plain Q) q;cases d with
  |_=>exact .bad _ U (by rw[V];simp only[y7,f.defers,L,I,s9,q];rfl)
 |ok a B=>
  rw[s]at g;obtain⟨U,q,p,o,x,Y⟩:=g;obtain⟨F,y,h⟩:=b.mono w a B Q s;have O:=BY (results u X.tmps) w #[] a B s (λe N W=>by have:=h e N;unfold Ht at this;grind);obtain⟨C,a1⟩:=Nl M t a (i a);refine .go (c.finish a) j B U (stepR_ret L f.defers f.kind I Q s λe N=>D.frame n y e (h e N)) ?_ ?_ C (λA Z=>r A (by simp[Z])) p x o Aa
  ·rw[cJ,O9 L f.defers f.kind I s];rfl
  ·rw[cJ,O9 L f.defers f.kind I q];rfl
end
def Kz(P:vg):zq:={ fn:=P.funcs.size,tmps:=#[],todo:=[.call default o9 "fmt's door, shut" #[]],defers:=[],mode:=.run,kind:=.normal }
section
variable {P:vg} {S:Env}
def Ql{V d}(h:py X cs w=py V d B):X=V/\cs=d/\w=B:=by
 simp only[py,Machine.mk.injEq,gA,dG,z8]at h
 grind
def Vn{n V d m}(h:(ig P tu (G X cs) w).bare=.go (G V d) B)(Y:runN P (n+1) (py X cs w)=.next m):runN P n (py V d B)=.next m:=by
 have:=step_lone_go h;simpa only[runN,this] using Y
def runN_ended{n o m}(h:(ig P tu (G X cs) w).bare=.ended o B)(Y:runN P (n+1) (py X cs w)=.next m):False:=by
 have:=step_lone_ended h;simp[runN,this]at Y
def J3(L:X.mode≠.run):ig P tu (G X cs) w=y7 P tu X cs su w:=by
 unfold ig G
 grind
def raise_mode(X:zq)(a):∃c,X.raise a = { X with mode:=.panicking c }:=by
 unfold Frame.raise;split<;>exact⟨_,iP⟩
def RY:∀e(X:zq)c,X.defers = []->(∃f,P.funcs[X.fn]?=ni f)->(∀x∈e,x.defers = []/\∃f,P.funcs[x.fn]?=ni f)->∀n(v U:qg)V(d:List zq),
  runN P n (py { X with mode:=.panicking c } (e++[Kz P]) v)=.next (py V d U)->∃B,V.mode=.panicking B:=by
 intro e
 induction e with
 |nil=>
  intro X c h I r n v U V d Y;obtain⟨f,I⟩:=I;cases n with
  |zero=>
   exact Odd
  |succ n=>
   obtain⟨R,L⟩:=raise_mode (Kz P) c;have C:(ig P tu (G { X with mode:=.panicking c } ([]++[Kz P])) v).bare=.go (G { Kz P with mode:=.panicking R } []) v:=by
    rw[J3 Ad,←L];simp only[y7,h,re,I]
    rfl
   have J:=Vn C Y;cases n with
   |zero=>
    simp only[runN,vj]at J;rw[←(Ql J).1];exact⟨_,iP⟩
   |succ n=>
    have b:P.funcs[P.funcs.size]?=su:=Ad;have T:∃o,(ig P tu (G { Kz P with mode:=.panicking R } []) v).bare=.ended o v:=by
     rw[J3 Ad];have M:re P { Kz P with mode:=.panicking R }=tu:=by
      simp only[re,Kz,b]
      decide +kernel
     simp only[y7,Kz]at M⊢
     simp_all
    obtain⟨o,T⟩:=T;exact(runN_ended T J).elim
 |cons x e O=>
  intro X c h I r n v U V d Y;obtain⟨f,I⟩:=I;cases n with
  |zero=>
   exact Odd
  |succ n=>
   obtain⟨Z,i⟩:=r x Ad;obtain⟨R,L⟩:=raise_mode x c;have C:(ig P tu (G { X with mode:=.panicking c } ((x::e)++[Kz P])) v).bare=.go (G { x with mode:=.panicking R } (e++[Kz P])) v:=by
    rw[J3 Ad,←L];simp only[y7,h,re,I,cJ]
    rfl
   exact O x R Z i (λy a=>r y (by simp[a])) n v U V d (Vn C Y)
def OB(b:Pk P S X)(L:X.mode=.returning)(n v U V):runN P (n+1) (py X [Kz P] v)≠.next (py V [Kz P] U):=by
 intro Y;obtain⟨u,I⟩:=b.fn;cases g:(results u X.tmps).run P v with
 | halt h t=>
  have C:∃o,(ig P tu (G X [Kz P]) v).bare=.ended o t:=by
   rw[J3 (by rw[L];simp)];simp only[y7,b.defers,L,I,s9,g];cases h <;> exact⟨_,iP⟩
  obtain⟨o,C⟩:=C;exact runN_ended C Y
 | ok x t=>
  have C:(ig P tu (G X [Kz P]) v).bare=.go (G ((Kz P).finish x) []) t:=by
   rw[J3 (by rw[L];simp)];simp only[y7,b.defers,L,I,s9,g,doReturn,b.kind]
   rfl
  have J:=Vn C Y;cases n with
  | zero=>
   simp only[runN,vj]at J;have:=(Ql J).2.1;simp at this
  | succ n=>
   have Z:Extern.next "fmt's door, shut" = su:=by decide +kernel
   have T:∃o,(ig P tu (G ((Kz P).finish x) []) t).bare=.ended o t:=by
    rw[Bf iP];simp only[zk,Kz,sr,Z,lj];exact⟨_,iP⟩
   obtain⟨o,T⟩:=T;exact runN_ended T J
end
inductive Tree
 |leaf
 |node (f:Nat->Tree)
def FwT(P:vg)(main:Bool)(J:hZ)(Stop:o5->y->Prop):Tree->o5->y->Prop
 |.leaf,g,v=>r v/\∀d,Stop g (v.at d)
 |.node f,g,v=>r v/\g.status=.running/\∀d,∃g' v',Hk P main J g (v.at d) g' v'/\FwT P main J Stop (f d) g' v'
def Fw(P:vg)(main:Bool)(J:hZ)(Stop:o5->y->Prop)(g:o5)(v:y):Prop:=∃T,FwT P main J Stop T g v
def EV(P:vg)(main:Bool)(J:hZ)(Stop:o5->y->Prop)(g:o5)(v:y):Prop:=r v->Fw P main J Stop g v
section
variable {P:vg} {J:hZ}
def FwT.at{T}(a:FwT P main J N T h v)(d):FwT P main J N T h (v.at d):=by cases T<;>exact a
def Fw.at(a:Fw P main J N h v)(d):Fw P main J N h (v.at d):=let⟨T,a⟩:=a;⟨T,a.at d⟩
def Fw.step(z:r v)(Y:h.status=.running)(a:∀d,∃R U,Hk P main J h (v.at d) R U/\Fw P main J N R U):Fw P main J N h v:=
 ⟨.node λd=>(a d).choose_spec.choose_spec.2.choose,z,Y,λd=>⟨(a d).choose,(a d).choose_spec.choose,(a d).choose_spec.choose_spec.1,(a d).choose_spec.choose_spec.2.choose_spec⟩⟩
def EV.stop(a:∀d,N h (v.at d)):EV P main J N h v:=λz=>⟨.leaf,z,a⟩
def EV.at(a:EV P main J N h v)(d):EV P main J N h (v.at d):=λz=>Fw.at (a z) d
def EV.step(Y:h.status=.running)(a:r v->∀d,∃R U,Hk P main J h (v.at d) R U/\EV P main J N R U):EV P main J N h v:=λz=>
 Fw.step z Y λd=>let⟨R,U,C,b⟩:=a z d;⟨R,U,C,b C.plain⟩
end
section
variable {P:vg} {S:Env} {J:hZ} {c0:zq} {cs0:List zq} {tp:Nat->Question->Nat}
structure Y6(P S main J)(Stop:o5->qg->Prop)(c0 cs0)(tp:Nat->Question->Nat) where
 fr:zq
 up:List zq
 w:qg
 okf:Pk P S fr
 oku:GI P S up
 plain:Plain w
 blind:Kn J w
 low:Pp J w.1.size
 tape:w.tape=tp
 not:¬Fw P main J Stop (G fr (up++c0::cs0)) w
structure Adv(x:Y6 P S main J Stop c0 cs0 tp)(d K)(y:Y6 P S main J Stop c0 cs0 tp):Prop where
 mid:¬(x.up = []/\x.1.mode=.returning)->(∀v,Twin (x.w.at d) v->Lx (x.w.at d) v K->Om P S main J K x.1 x.up (c0::cs0) [Kz P] (x.w.at d) v) /\
  ∀fr' up' w',(ig P tu (G x.1 (x.up++[Kz P])) (x.w.at d)).bare=.go (G fr' (up'++[Kz P])) w'->Hk P main J (G x.1 (x.up++c0::cs0)) (x.w.at d) (G fr' (up'++c0::cs0)) w'->Pk P S fr'->GI P S up'->w'.tape=tp->y.1=fr'/\y.up=up'/\y.w=w'
 last:x.up = []->x.1.mode=.returning->∀fn,P.funcs[x.1.fn]?=ni fn->K=Ha P (results fn x.1.tmps) (x.w.at d)/\∀val w',(results fn x.1.tmps).run P (x.w.at d)=.ok val w'->¬EV P main J Stop (G (c0.finish val) cs0) w'
def YQ(H:UA P S){a}(I:Pk P S X)(r:GI P S a)(d:¬(a = []/\X.mode=.returning))(w)(Q:Plain w)(D:Kn J w)(b:Pp J w.1.size):∃K,∀z T(v:y),Twin w v->Lx w v K->Om P S main J K X a z T w v:=by
 rcases I.mode with L|L
 ·exact ZY H I L r w Q D b
 ·cases a with
  |nil=>exact absurd ⟨iP,L⟩ d
  |cons c a=>exact ZO H I L r w Q D b
def Hk.blind{g}(h:Hk P main J g v R U)(D:Kn J v)(K:Pp J v.1.size):Kn J U/\Pp J U.1.size:=by
 have ⟨X,f,_⟩:=h.frame;exact⟨D.frame K f,K.mono f.size⟩
def adv(H:UA P S)(x:Y6 P S main J Stop c0 cs0 tp):∃d K y,Adv x d K y:=by
 have Z:∃d,∀R U,Hk P main J (G x.1 (x.up++c0::cs0)) (x.w.at d) R U->¬Fw P main J Stop R U:=by
  refine cL λa8=>x.not (Fw.step x.plain iP λd=>?_)
  simp_all
 obtain⟨d,j⟩:=Z;by_cases Q:x.up = []/\x.1.mode=.returning
 ·obtain⟨r,L⟩:=Q;obtain⟨u,I⟩:=x.4.fn;refine⟨d,Ha P (results u x.1.tmps) (x.w.at d),x,λi=>absurd ⟨r,L⟩ i,λ_ _ O W=>?_⟩;obtain rfl:O=u:=aA (W.symm.trans I);refine⟨iP,λval a o D=>?_⟩;obtain⟨l,_⟩:=Sr;obtain⟨m1,m,q⟩:=(O8 (P:=P) (n:=l) O x.1.tmps).mono (x.w.at d) val a x.plain o;have s:Hk P main J (G x.1 (x.up++c0::cs0)) (x.w.at d) (G (c0.finish val) cs0) a:=by
   rw[r];exact stepR_ret L x.4.defers x.4.kind I x.plain o λe N=>Kn.frame (v:=x.w.at d) x.blind x.low m e (q e N)
  exact j _ _ s (D s.plain)
 ·obtain⟨K,p⟩:=YQ (J:=J) (main:=main) H x.4 x.5 Q (x.w.at d) x.plain x.blind x.low;by_cases k:∃V F a,(ig P tu (G x.1 (x.up++[Kz P])) (x.w.at d)).bare=.go (G V (F++[Kz P])) a/\Hk P main J (G x.1 (x.up++c0::cs0)) (x.w.at d) (G V (F++c0::cs0)) a/\Pk P S V/\GI P S F/\a.tape=tp
  ·obtain⟨V,F,a,C,c,T,t,z⟩:=k;obtain⟨A,B⟩:=c.blind x.blind x.low;refine⟨d,K,⟨V,F,a,T,t,c.plain,A,B,z,j _ _ c⟩,λ_=>⟨λv s g=>p _ _ v s g,λf h E b _ _ _ _=>?_⟩,λr L=>absurd ⟨r,L⟩ Q⟩;rw[C]at b;injection b with Y M;simp only[G,z8]at Y;obtain⟨w,X,_⟩:=Y;exact⟨w,List.append_cancel_right X,M⟩
  ·exact⟨d,K,x,λ_=>⟨λv s g=>p _ _ v s g,λf h E b a1 a6 a7 n=>absurd ⟨f,h,E,b,a1,a6,a7,n⟩ k⟩,λr L=>absurd ⟨r,L⟩ Q⟩
section
variable (H:UA P S) (p:Y6 P S main J Stop c0 cs0 tp)
def RM(x:Y6 P S main J Stop c0 cs0 tp):Y6 P S main J Stop c0 cs0 tp:=(adv H x).choose_spec.choose_spec.choose
def Qc(x:Y6 P S main J Stop c0 cs0 tp):Nat:=(adv H x).choose
def BX(x:Y6 P S main J Stop c0 cs0 tp):Nat:=(adv H x).choose_spec.choose
def Abg(x:Y6 P S main J Stop c0 cs0 tp):Adv x (Qc H x) (BX H x) (RM H x):=(adv H x).choose_spec.choose_spec.choose_spec
def Ky:Nat->Y6 P S main J Stop c0 cs0 tp
 |0=>p
 |n+1=>RM H (Ky n)
def posOf:Nat->Nat
 |0=>0
 |n+1=>posOf n+BX H (Ky H p n)
open Classical in
def JP(n:Nat)(q:Question):Nat:=
 if h:∃ij:Nat×Nat,n=posOf H p ij.1+ij.2/\ij.2<BX H (Ky H p ij.1) then tp (Qc H (Ky H p h.choose.1)+h.choose.2) q else 0
def NS{k}(h:i<=k):posOf H p i<=posOf H p k:=by
 induction k with
 |zero=>grind
 |succ k O=>
  rcases Nat.lt_or_ge i (k+1) with Y|v
  ·exact aF (O Aa) (Nat.le_add_right _ _)
  grind
def VU{i j}(l:j<BX H (Ky H p i)):JP H p (posOf H p i+j)=tp (Qc H (Ky H p i)+j):=by
 funext q
 unfold JP;have Q:∃I:Nat×Nat,posOf H p i+j=posOf H p I.1+I.2/\I.2<BX H (Ky H p I.1):=⟨(i,j),iP,l⟩;rw[dif_pos Q];have n:=Q.choose_spec;generalize Q.choose=I at n;have ⟨F,a⟩:=I;have ⟨C,J⟩:=n;simp only at C J⊢;have:i=F:=by
  rcases gF i F with h|h|h
  ·have:=NS H p (show i+1<=F from h);simp only[posOf]at this;omega
  ·exact h
  ·have:=NS H p (show F+1<=i from h);simp only[posOf]at this;omega
 grind
theorem YI{R:Ending->qg->Prop}{a:zq}{val:w8}(K:a.leaving P U (.returned val))(ak:R (.returned val) U)(O:∀val w v,Twin w v->w.tape=tp->R (.returned val) v->EV P main J Stop (G (c0.finish val) cs0) w) :
  ∀(n i:Nat)(L:qg),runN P n (py (Ky H p i).1 ((Ky H p i).up ++ [Kz P]) L)=.next (py a [Kz P] U)->Twin (Ky H p i).w L->L.tape=JP H p->L.drawn=posOf H p i->False:=by
 intro n
 induction n with
 | zero=>
  intro i L Y t d V;simp only[runN,vj]at Y;obtain⟨S,N,u⟩:=Ql Y;have g:=Abg H (Ky H p i);have k:=λj=>VU H p (i:=i) (j:=j);generalize Z:Ky H p i=x at *;have r:x.up = []:=by
   have:=aK List.length N;simp at this;exact this
  obtain⟨o,ag,al,e,I,y⟩:=K;have W:x.1.mode=.returning:=by rwa[S]
  rw[←S,←u]at y;rw[←S]at I;obtain⟨a1,a6⟩:=g.last r W e I;have T:Lx (x.w.at (Qc H x)) L (Ha P (results e x.1.tmps) (x.w.at (Qc H x))):=λj l=>by
   rw[←a1]at l;rw[d,V,k j l]
   show tp _=x.w.tape _;rw[x.tape];rfl
  have f:=Xb (P:=P) (results e x.1.tmps) (x.w.at (Qc H x)) L ⟨t.1,t.os,t.output⟩ T;cases s:(results e x.1.tmps).run P (x.w.at (Qc H x)) with
  | halt h c=>
   rw[s]at f;obtain⟨h',b,q⟩:=f
   grind
  | ok an c=>
   rw[s]at f;obtain⟨b,q,D,z,m,_⟩:=f;rw[y]at q;injection q with ae X;subst ae X;exact a6 val c s (O val c L D (m.trans x.tape) (by rwa[u]))
 | succ n ih=>
  intro i L Y t d V;have g:=Abg H (Ky H p i);have a7:RM H (Ky H p i)=Ky H p (i+1):=iP;have A:posOf H p (i+1)=posOf H p i+BX H (Ky H p i):=iP;have k:=λj=>VU H p (i:=i) (j:=j);generalize Z:Ky H p i=x at *;by_cases Q:x.up = []/\x.1.mode=.returning
  ·obtain⟨r,o⟩:=Q;rw[r]at Y;exact OB x.4 o n L U a Y
  ·obtain⟨a8,aa⟩:=g.1 Q;have T:Lx (x.w.at (Qc H x)) L (BX H x):=λj l=>by
    rw[d,V,k j l]
    show tp _=x.w.tape _;rw[x.tape];rfl
   cases a8 L ⟨t.1,t.os,t.output⟩ T with
   | bad ao b h=>exact runN_ended h Y
   | panic ab b h=>
    obtain⟨ad,ec⟩:=raise_mode x.1 ab;rw[ec]at h;obtain⟨B,M⟩:=RY x.up x.1 ad x.4.defers x.4.fn (λE F=>⟨(x.5 E F).1.defers,(x.5 E F).1.fn⟩) n b U a [Kz P] (Vn h Y);rw[K.1]at M;cases M
   | go af ah c b ai aj q I r C m z vd=>
    obtain⟨S,N,u⟩:=aa af ah c aj ai I r (m.trans x.tape);rw[a7]at S N u;refine ih (i+1) b ?_ ?_ ?_ ?_
    ·rw[S,N];exact Vn q Y
    ·rwa[u]
    ·rw[z,d]
    ·rw[vd,V,A]
end
def Aka(g:UA P S){f}(I:S f){w}(Q:r w)(D:Kn J w)(K:Pp J w.1.size){a:iB}(j:S.reg f (ow P f a .normal).tmps){R:Ending->y->Prop}(d:∀c v,¬R (.panicked c) v)(N:∀v,¬R .outgrown v)(H:∀v,Twin w v->Calls P f a v R)(F:∀val B U,Twin B U->B.tape=w.tape->R (.returned val) U->EV P main J Stop (G (c0.finish val) cs0) B):Fw P main J Stop (G (ow P f a .normal) (c0::cs0)) w:=by
 refine cL λO=>?_
 let p:Y6 P S main J Stop c0 cs0 w.tape:=⟨ow P f a .normal,[],w,(AL g I a j).1,(λ_ h=>by cases h),Q,D,K,iP,O⟩
 have ⟨e,U,X,b,i,_,m⟩:=H { w with tape:=JP g p,drawn:=0 } ⟨rfl,rfl,rfl⟩ [Kz P];cases e with
 |panicked k=>exact d k U b
 |outgrown=>exact N U b
 |returned val=>
  have ⟨n,z⟩:=i;exact YI g p m b (λval B v l E Y=>F val B v l E Y) n 0 _ z ⟨iP,iP,iP⟩ iP iP
end
def Tree.Sub(s:Tree):Tree->Prop
 |.leaf=>False
 |.node f=>∃d,s=f d
def Tree.wf:WellFounded Tree.Sub:=⟨λt=>by
 induction t with
 |leaf=>exact⟨_,λs h=>h.elim⟩
 |node f O=>exact⟨_,λs⟨d,h⟩=>h▸O d⟩⟩
def Bw(n:Z)(a:Act):Act:=⟨a.tmps.map (A1 n),a.defers.map (O6 n)⟩
def Gu(n)(b:zq)(a k):Bm n (b.at a k)=b.at (Bw n a) (k.map (Dg n)):=iP
def Hl{G}(p:n.Fix G)(a x)(h:Eg G x=tu):(Bw n a).eval x=A1 n (a.eval x):=by
 have:=Qd p ((default:zq).at a []) ((default:zq).at (Bw n a) []) iP x h
 rwa[qb,qb]at this
section
variable (P:vg) (d:Bool) (J:hZ) (g:o5->y->Prop)
def Vy(b:zq)(k:List wx)(z:List zq):oj->Act->y->Prop
 |.normal,a,w=>EV P d J g (G (b.at a k) z) w
 |.exit id,a,w=>∃k',exitTo id k=ni k'/\EV P d J g (G (b.at a k') z) w
 |.ret,a,w=>∀todo,EV P d J g (G { b.at a todo with mode:=.returning } z) w
 |_,_,_=>False
def Hj(fn:pz)(c:oe)(Q:oj->Act->y->Prop)(a:Act)(w:y):Prop:=
 ∀b(k:List wx)z,b.fn=fn->b.kind=.normal->(∀e a' w',Q e a' w'->Vy P d J g b k z e a' w')->EV P d J g (G (b.at a (.code c::k)) z) w
def opsV(fn:pz)(ops:Array km)(l:iG)(Q:oj->Act->y->Prop)(a:Act)(w:y):Prop:=
 ∀b(k:List wx)z,b.fn=fn->b.kind=.normal->(∀e a' w',Q e a' w'->Vy P d J g b k z e a' w')->EV P d J g (G (b.at a (.inRegion ops l::k)) z) w
def Bg(f:pz)(args:iB)(w:qg)(PostF:iH):Prop:=
 ∃fn c,P.funcs[f]? = ni fn∧(fn.name == "runtime.NumGoroutine")=o9∧fn.body=ni c∧∀fr cs,fr.mode=.run→(∀v w',PostF v w'→EV P d J g (G (fr.finish v) cs) w') →
  EV P d J g (G ((base f).at { tmps:=args++pf (fn.7 - args.size) uw,defers:=[] } [.code c]) (fr :: cs)) w
end
section
variable {P:vg} {J:hZ} {j:pz} {a:Act}
def EV.ctl(D:EV P main J N g' v)(Y:h.status=.running)(I:g'.status=.running)(a:∀n(w:y),n.Fix P.globals.size->ig P main (Bn n h) w=.go (Bn n g') w):=
 EV.step Y λz d=>⟨g',v.at d,FT I (show r (v.at d) from z) a,D.at d⟩
def EV.ctlA{b:zq}{l q}(D:EV P main J N (G (b.at l q) z) v)(h:∀n(cs:List zq)w,n.Fix P.globals.size->ig P main (G (b.at (Bw n a) (k.map (Dg n))) cs) w=.go (G (b.at (Bw n l) (q.map (Dg n))) cs) w):EV P main J N (G (b.at a k) z) v:=
 EV.ctl D iP iP λn w p=>h n _ w p
def Vy.push{b x e}(Z:x.plain=tu)(c:e≠.normal)(h:Vy P main J N b k z e a w):Vy P main J N b (x::k) z e a w:=by
 cases e with
 |normal=>exact absurd iP c
 |exit n=>have ⟨q,E,G⟩:=h;exact⟨q,by cases x<;>simp_all[exitTo,Item.plain],G⟩
 |ret=>exact h
 |goto l=>exact h
 |panic j=>exact h
 |outgrown=>exact h
def Cr{d:oj->Act->y->Prop}(h:Hj P main J N j c Q a w)(f:∀e a w,Q e a w->d e a w):Hj P main J N j c d a w:=
 λb k z D E M=>h b k z D E λe l B q=>M e l B (f _ _ _ q)
def Br(h:Q .normal a w):Hj P main J N j .skip Q a w:=λb k z _ _ M=>EV.ctlA (M _ _ _ h) λn cs w _=>stepG_skip
def Dm(h:Q .ret a w):Hj P main J N j .ret Q a w:=λb k z _ _ M=>EV.ctl (M _ _ _ h (.code .ret::k)) iP iP λn w _=>stepG_ret' (a:=Bw n a)
def J4(h:Q (.exit b) a w):Hj P main J N j (.exit b) Q a w:=λd k z _ _ M=>by
 have ⟨q,c,G⟩:=M _ _ _ h;exact EV.ctlA G λn cs w _=>stepG_exit (by rw[Ot,c];rfl)
def A0(next:Act->y->Prop)(Q:oj->Act->y->Prop):oj->Act->y->Prop
 |.normal,a,w=>next a w
 |e,a,w=>Q e a w
def Aw{x y}(h:Hj P main J N j x (A0 (Hj P main J N j y Q) Q) a w):Hj P main J N j (.seq x y) Q a w:=by
 intro b k z D E M;refine EV.ctlA (h b (.code y::k) z D E λe c B q=>?_) λn cs w _=>stepG_seq;cases e with
 |normal=>exact q b k z D E M
 |exit d=>exact(M _ _ _ q).push iP Ad
 |ret=>exact(M _ _ _ q).push iP Ad
 |goto l=>exact M _ _ _ q
 |panic f=>exact M _ _ _ q
 |outgrown=>exact M _ _ _ q
def A2{c x y t}(M:a.eval c=.bool t)(h:Hj P main J N j (if t then x else y) Q a w)(E:Eg P.globals.size c=true:=by rfl):Hj P main J N j (.cond c x y) Q a w:=
 λb k z D d f=>EV.ctlA (h b k z D d f) λn cs w p=>stepG_cond (by rw[Hl p a c E,M];simp)
def As(id:Nat)(Q:oj->Act->y->Prop):oj->Act->y->Prop
 |.exit i,a,w=>if i=id then Q .normal a w else Q (.exit i) a w
 |e,a,w=>Q e a w
def Du(h:Hj P main J N j c (As b Q) a w):Hj P main J N j (.block b c) Q a w:=by
 intro d k z D E M;refine EV.ctlA (h d (.inBlock b::k) z D E λe o B q=>?_) λn cs w _=>stepG_block;cases e with
 |normal=>exact EV.ctlA (M _ _ _ q) λn cs w _=>stepG_inBlock
 |exit i=>
  simp only[As]at q;by_cases V:i=b
  ·rw[aJ V]at q;exact⟨k,by simp[exitTo,V],M _ _ _ q⟩
  ·rw[aL V]at q;have ⟨f,g,m⟩:=M _ _ _ q;exact⟨f,by simp[exitTo,dN V,g],m⟩
 |ret=>exact M _ _ _ q
 |goto l=>exact M _ _ _ q
 |panic p=>exact M _ _ _ q
 |outgrown=>exact M _ _ _ q
def Mt{I:Nat->Act->y->Prop}(Y:∀n a w,I n a w->Hj P main J N j c (A0 (λa w=>∃m,m<n/\I m a w) Q) a w){n}(h:I n a w):Hj P main J N j (.loop c) Q a w:=by
 intro b k z D E M
 suffices H:∀n a w,I n a w->EV P main J N (G (b.at a (.code c::.inLoop c::k)) z) w from EV.ctlA (H n a w h) λn cs w _=>stepG_loop
 intro n
 induction n using Nat.strongRecOn with
 |_ n O=>
  intro a w h;refine Y n a w h b _ z D E λe g B q=>?_;cases e with
  |normal=>
   have ⟨m,L,o⟩:=q;exact EV.ctlA (O m L g B o) λn cs w _=>stepG_inLoop
  |exit d=>exact(M _ _ _ q).push iP Ad
  |ret=>exact(M _ _ _ q).push iP Ad
  |goto l=>exact M _ _ _ q
  |panic f=>exact M _ _ _ q
  |outgrown=>exact M _ _ _ q
def Pd{g}(h:opsV P main J N j g (jk g.size) Q a w):Hj P main J N j (.region b g o9) Q a w:=
 λc k z D E M=>EV.ctlA (h c k z D E M) λn cs w _=>stepG_region
def Au{g}(h:Q .normal a w):opsV P main J N j g [] Q a w:=
 λb k z D E M=>EV.ctlA (M _ _ _ h) λn cs w _=>stepG_region_end
def No(n a d v):(Bw n a).put d (A1 n v)=Bw n (a.put d v):=by
 cases d with
 |none=>rfl
 |some d=>show Act.mk ((a.tmps.map (A1 n)).setIfInBounds d (A1 n v)) _=Act.mk _ _;rw[Hx];rfl
def Bi{g}(O:g[i]?=ni o)(W:Region.wanted o (gu g a.tmps)=o9)(h:opsV P main J N j g l Q (a.put o.dst uw) w):opsV P main J N j g (i::l) Q a w:=
 λb k z D E M=>EV.ctlA (h b k z D E M) λn cs w _=>by
  have:=stepG_unwanted (P:=P) (main:=main) (b:=b) (rest:=l) (k:=k.map (Dg n)) (cs:=cs) (w:=w) O (by rwa[show(Bw n a).tmps=a.tmps.map _ from iP,E1]);have e:=No n a o.dst uw;rw[Eu]at e
  rwa[e]at this
def Yields(P:vg)(s:Sem vi)(w:y)(x:w8)(w':y):Prop:=s.run P w=.ok (.value x) w'∨(s.run P w=.ok .skip w'/\x=uw)
def EV.opEnter{b:zq}{g c d}(E:b.kind=.normal)(O:g[i]?=ni o)(W:Region.wanted o (gu g a.tmps)=tu)(Y:∀n w,n.Fix P.globals.size->(execOp (Bw n a).eval o).run P w=.ok (.enter f (c.map (A1 n))) w)(h:∀n w,n.Fix P.globals.size->(execOp (Bw n a).eval o).events P w #[]=#[])(H:Bg P main J N f c w d)(F:∀v B,d v B->EV P main J N (G (b.at (a.put o.dst v) (.inRegion g l::k)) z) B):EV P main J N (G (b.at a (.inRegion g (i::l)::k)) z) w:=by
 obtain⟨r,u,C,s,m,q⟩:=H;have t:∀v,(b.at a (.inRegion g (i::l)::k)).finish v=b.at (a.put o.dst v) (.inRegion g l::k):=λv=>by rw[Frame.finish_at,O];rfl
 refine EV.ctl (q (b.at a (.inRegion g (i::l)::k)) z iP λv B e=>by rw[t];exact F v B e) iP iP λn w p=>?_
 rw[Ep,Gu];have U:gu g (Bw n a).tmps=gu g a.tmps:=E1 g a.tmps;have:=stepG_enter (P:=P) (main:=main) (b:=b) (a:=Bw n a) (k:=k.map (Dg n)) (cs:=z.map (Bm n)) (rest:=l) O (by rwa[U]) (by rw[E];decide) (Y n w p);rw[show lp (Dg n) (.inRegion g (i::l)::k)=.inRegion g (i::l)::k.map (Dg n) from iP,this,Kc,enter_at _ C m];unfold listed;rw[h n w p,seen_none]
 rfl
def EV.opCall{b:zq}{g X d args m}(E:b.kind=.normal)(H:Bg P main J N f X w d)(O:g[i]?=ni o)(W:Region.wanted o (gu g a.tmps)=tu)(T:o.op=.call { callee:=.value (.func f),args,argTypes:=m })(e:args.map a.eval=X)(j:args.all (Eg P.globals.size)=tu)(F:∀v B,d v B->EV P main J N (G (b.at (a.put o.dst v) (.inRegion g l::k)) z) B):EV P main J N (G (b.at a (.inRegion g (i::l)::k)) z) w:=by
 have ⟨r,c,C,s,h,_⟩:=H;have u:r.body.isNone=o9:=Aay;refine EV.opEnter E O W (λn w p=>?_) (λn w _=>events_call_body T C s u _) H F;rw[run_call_body T C s u,Jm (λx Z=>Hl p a x Z) args j,e]
def EX{g args m b}(O:g[i]?=ni o)(W:Region.wanted o (gu g a.tmps)=tu)(T:o.op=.call { callee:=.value (.func f),args,argTypes:=m })(H:Bg P main J N f (args.map a.eval) w b)(F:∀v B,b v B->opsV P main J N j g l Q (a.put o.dst v) B)(E:args.all (Eg P.globals.size)=tu:=by rfl):opsV P main J N j g (i::l) Q a w:=
 λb k z D q M=>EV.opCall q H O W T iP E λv B g=>F v B g b k z D q M
def Bh{K}{b:iB}{d:w8→qg→Prop}{R:Array w8→w8}(I:P.funcs[f]? = ni K)(s:(K.name == "runtime.NumGoroutine")=o9)(V:K.body=ni c)(i:∀tmps w,(results K tmps).run P w=.ok (R tmps) w)(r:∀tmps w,(results K tmps).events P w #[]=#[])(k:Hj P main J N f c (λe a B=>(e=.normal∨e=.ret)∧a.defers = []∧d (R a.tmps) B) { tmps:=b++pf (K.ntmps - b.size) uw,defers:=[] } w):Bg P main J N f b w d:=by
 refine⟨K,c,I,s,V,λX cs L F=>?_⟩;have j:∀h(a:Act)B,a.defers = []->d _ B->EV P main J N (G { (base f).at a h with mode:=.returning } (X :: cs)) B:=λh a B v Q=>
  EV.step iP λz g=>⟨_,B.at g,stepR_ret iP v iP I z (i _ _) (by rw[r];simp),(F _ _ Q).at g⟩
 refine k _ [] _ iP iP λe l B⟨m,v,Q⟩=>?_;rcases m with rfl|rfl
 ·exact EV.ctl (j [] l B v Q) iP iP λn H _=>stepG_end (a:=Bw n l)
 ·exact λh=>j h l B v Q
end
section
variable {P:vg}
structure Dv where
 at_:pz->List Nat
 fn:Option pz
def Dv.cv(D:Dv):w8:=match D.fn with|some g=>.func (.func g) #[] #[]|none=>uw
def SD(D:Dv)(fn f:pz)(args:Array Operand):Bool:=
 (D.at_ f).all λj=>match args[j]? with
  |some (.tmp t)=>(D.at_ fn).contains t
  |some (.func g)=>D.fn==ni g
  |some _=>o9
  |none=>tu
def Ab8(D:Dv)(fn:pz)(o:km):Bool:=match o.dst with
 |some d=>!(D.at_ fn).contains d||(match o.op with|.move (.tmp t)=>(D.at_ fn).contains t|_=>o9)
 |none=>tu
def opS(P:vg)(S:pz->Bool)(D:Dv)(fn:pz)(o:km):Bool:=Ab8 D fn o&&match o.op with
 |.call c=>(match c.callee with
  |.value (.tmp t)=>c.args.all (Eg P.globals.size)&&(D.at_ fn).contains t
  |.value (.func f)=>opR P S o&&(DZ P f||SD D fn f c.args)
  |_=>opR P S o)
 |_=>opR P S o
def Xy(D:Dv)(f:pz)(tmps:iB):Prop:=∀j,j∈D.at_ f->tmps.getD j uw=D.cv∨tmps.getD j uw=uw
def I7(P:vg)(S:pz->Bool)(D:Dv)(fn:pz):oe->Bool
 |.skip=>tu
 |.region _ ops _=>ops.all (opS P S D fn)
 |.seq a b=>I7 P S D fn a&&I7 P S D fn b
 |.cond c a b=>(Eg P.globals.size c&&I7 P S D fn a)&&I7 P S D fn b
 |.block _ b=>I7 P S D fn b
 |.loop b=>I7 P S D fn b
 |.rangeFunc _ _ _ _=>o9
 |.exit _=>tu
 |.scope b=>I7 P S D fn b
 |.label _=>tu
 |.goto _=>tu
 |.ret=>tu
 |.refuse _=>o9
def Yy{D}(h:Ab8 D u o=tu)(a v)(Y:Xy D u a)(q:∀t,o.op=.move (.tmp t)->v=uw∨v=a.getD t uw):Xy D u (Hm o.dst v a):=by
 intro j l;have F:=Y j l;unfold Ab8 at h;unfold Hm;cases y:o.dst with
 |none=>exact F
 |some d=>
  rw[y]at h;dsimp only at h⊢;rw[cG]at F⊢;by_cases f:d=j
  ·subst f;have C:v=D.cv∨v=uw:=by
    rw[dR]at h;rcases h with h|h
    ·simp[l]at h
    ·cases O:o.op with
     |move x=>
      rw[O]at h;cases x with
      |tmp t=>
       rcases q t O with e|e
       ·exact .inr e
       ·rw[e];exact Y t HI
      |_=>cases h
     |_=>rw[O]at h;cases h
   rw[bZ,aJ iP]
   grind
  grind
def Ajv(S:pz->Bool)(D:Dv):Prop:=∀g,D.fn=ni g->S g=tu/\D.at_ g = []
def Aeb{D g a}(h:SD D u g a=tu)(c:Xy D u X.tmps):Xy D g (ow P g (a.map X.eval) .normal).tmps:=by
 intro j l;unfold SD at h;have C:=cR.1 h j l;have F:∃b,(ow P g (a.map X.eval) .normal).tmps=a.map X.eval++b/\∀k,b.getD k uw=uw:=by
  unfold ow;cases G:P.funcs[g]? with
  |none=>grind
  |some O=>exact⟨_,iP,λk=>by rw[cG,Array.getElem?_replicate];split<;>rfl⟩
 obtain⟨b,S,L⟩:=F;rw[S];rw[cG];cases d:a[j]? with
 |none=>
  rw[eJ (by simpa using(by simpa using d))]
  right
  have:=L (j - (a.map X.eval).size)
  rwa[cG]at this
 |some x=>
  rw[dJ (by simpa using((aH.1 d).1)),aN,d];rw[d]at C;cases x with
  |tmp t=>exact c t (by simpa using C)
  |func r=>
   left
   have:D.fn=ni r:=by simpa using C
   unfold Dv.cv;rw[this]
   rfl
  |_=>cases C
def Nv(P:vg)(s:Sem vi):Prop:=∀v y v',s.run P v=.ok y v'->(∃x,y=.value x)∨y=.skip
def Nv.bind{s}{k:a->Sem vi}(h:∀b,Nv P (k b)):Nv P (s >>= k):=λv x U Y=>by
 rw[Sem.run_bind]at Y;cases C:s.run P v with
 |halt _ _=>simp_all
 |ok c t=>rw[C]at Y;exact h c t x U Y
def Nv.value(x):Nv P (nh (.value x)):=λv y U Y=>by cases Y;exact .inl ⟨x,iP⟩
def Nv.skip:Nv P (nh .skip):=λv y U Y=>by cases Y;exact .inr iP
def Nv.nev(h:Nev P s):Nv P s:=λv y U Y=>absurd Y (h.never v y U)
def Nv.okN{S}(h:Nv P s){y}(Y:s.run P v=.ok y U):OkN P S y:=by
 rcases h v y U Y with⟨x,rfl⟩|rfl<;>trivial
def Adq(N:Ia P){D}(H:∀f,S f=tu→∃fn c,P.funcs[f]? = ni fn∧(fn.name == "runtime.NumGoroutine")=o9∧fn.body=ni c)(r:∀f,S f=tu→W f)(E:Ajv S D)(F:opS P S D fn o=tu):Nx P ⟨W,Xy D⟩ fn o:=by
 unfold opS at F;rw[aS]at F;obtain⟨b,h⟩:=F;have k:opR P S o=tu->∀n(X:zq),n.Fix P.globals.size->Rf P n (Ku n) (execOp X.eval o) (execOp (Bm n X).eval o):=λY n X p=>
  Ao4 p N H (λg=>rfl) (λv=>rfl) (λx Z=>Qd p X (Bm n X) iP x Z) Y
 have a7:∀(X:zq)(c:Call)g,S g=tu->(jl g (#[]++c.args.map X.eval++#[]):Sem vi)=jl g (c.args.map X.eval):=λX c g _=>by rw[fU,eI]
 have body:∀g(V:iB)(v:qg)(y:vi)(U:qg),S g=tu->(jl g V).run P v=.ok y U->y=.enter g V:=λg V v y U G Y=>by
  obtain⟨O,cd,C,J,z⟩:=H g G;have i:O.body.isNone=o9:=by rw[z];rfl
  unfold jl at Y;have I:(match P.funcs[g]? with|none=>_|some fn=>_:Sem vi).run P v=.ok y U:=Y;rw[C]at I;simp only[J,i]at I;cases I
  rfl
 have ext:∀(g:pz)(V:iB)(v:qg)(y:vi)(U:qg),DZ P g=tu->(jl g V).run P v=.ok y U->(∃x,y=.value x)∨y=.skip:=λg V v y U G Y=>by
  unfold DZ at G;unfold jl at Y;cases C:P.funcs[g]? with
  | none=>rw[C]at G;cases G
  | some O=>
   rw[C]at G;simp only[aS]at G;obtain⟨⟨i,A⟩,K⟩:=G;obtain⟨L,F⟩:=Sr;obtain⟨R,e2,e,e3,_⟩:=UO (P:=P) (n:=L) (H:=λ_=>False) (F _) (fn:=O) (by simpa using A) (by simpa using K);have I:(match P.funcs[g]? with|none=>_|some fn=>_:Sem vi).run P v=.ok y U:=Y;rw[C]at I;simp only[e2,i,R,e3,bP]at I;have s:Nv P (Go.mark (.extern g) >>= λ_=>e V >>= λx=>(nh (Next.value x):Sem vi)):=Nv.bind λ_=>Nv.bind λx=>Nv.value x;exact s v y U I
 cases T:o.op with
 | call c=>
  rw[T]at h;dsimp only at h;have Q:∀j,execOp j o=resolve j c o.type >>= λd=>pj d.target d.args:=λj=>by unfold execOp;rw[T]
  cases M:c.callee with
  | builtin u=>
   rw[M]at h;refine⟨λn X p _=>k h n X p,λX v x U _ l Y=>Nv.okN ?_ Y,Yy b⟩;rw[Q];unfold resolve;rw[M]
   show Nv P (pj (.builtin u c.argTypes o.type _) _);have i:Sj P S c=tu:=by unfold opR at h;rwa[T]at h
   unfold Sj at i;rw[M]at i;unfold pj builtin;cases u <;> first
    | (simp at i;done)
    | exact Nv.bind λx=>Nv.value x
  | value f=>
   rw[M]at h;cases f with
   | func g=>
    dsimp only at h;rw[aS]at h;obtain⟨h,B⟩:=h;refine⟨λn X p _=>k h n X p,λX v x U a l Y=>?_,Yy b⟩;have i:Sj P S c=tu:=by unfold opR at h;rwa[T]at h
    unfold Sj at i;rw[M,aS]at i;rw[Q]at Y;unfold resolve at Y;rw[M]at Y;have I:(jl g (#[]++c.args.map X.eval++#[])).run P v=.ok x U:=Y;rw[fU,eI]at I;by_cases G:S g=tu
    ·rw[body g _ v x U G I];refine⟨r g G,?_⟩;rw[dR]at B;rcases B with he|B
     ·rcases ext g _ v x U he I with⟨y,q⟩|q <;> (rw[body g _ v x U G I]at q;cases q)
     ·exact Aeb B a
    ·rcases ext g _ v x U (by simpa[G] using i.2) I with⟨y,rfl⟩|rfl <;> trivial
   | tmp t=>
    dsimp only at h;rw[aS]at h;obtain⟨ha,a1⟩:=h;have two:∀(X:zq),Xy D fn X.tmps->X.eval (.tmp t)=D.cv∨X.eval (.tmp t)=uw:=λX a=>a t (by simpa using a1);refine⟨λn X p a=>?_,λX v x U a l Y=>?_,Yy b⟩
    ·rw[Q,Q];unfold resolve;rw[M]
     show Rf P n (Ku n) (uj (X.eval (.tmp t)) (c.args.map X.eval) >>= λd=>pj d.target d.args) (uj ((Bm n X).eval (.tmp t)) (c.args.map (Bm n X).eval) >>= λd=>pj d.target d.args);rw[Qd p X (Bm n X) iP (.tmp t) iP,Jm (λx Z=>Qd p X (Bm n X) iP x Z) c.args ha];rcases two X a with e|e
     ·rw[e];unfold Dv.cv;cases m:D.fn with
      | none=>exact Rf.never (D8 (Cz iP trivial))
      | some g=>
       obtain⟨G,_⟩:=E g m;dsimp only;rw[show A1 n (.func (.func g) #[] #[])=.func (.func g) #[] #[] by simp[Mp]];have s:=Xz (P:=P) (n:=n) p H g (c.args.map X.eval) (by simp[G])
       show Rf P n (Ku n) (jl g (#[]++c.args.map X.eval++#[])) (jl g (#[]++(c.args.map X.eval).map (A1 n)++#[]));exact Ewc
     ·rw[e];exact Rf.never (D8 (Cz iP trivial))
    ·rw[Q]at Y;unfold resolve at Y;rw[M]at Y;have I:(uj (X.eval (.tmp t)) (c.args.map X.eval) >>= λd=>pj d.target d.args).run P v=.ok x U:=Y;rcases two X a with e|e
     ·rw[e]at I;unfold Dv.cv at I;cases m:D.fn with
      | none=>rw[m]at I;cases I
      | some g=>
       obtain⟨G,a6⟩:=E g m;rw[m]at I;rw[body g _ v x U G I];exact⟨r g G,λa8 w=>by rw[a6]at w;cases w⟩
     ·rw[e]at I;cases I
   | _=>
       have i:Sj P S c=tu:=(by unfold opR at h;rwa[T]at h);unfold Sj at i;rw[M]at i;simp at i
  | invoke aa nm=>
   rw[M]at h;have i:Sj P S c=tu:=by unfold opR at h;rwa[T]at h
   unfold Sj at i;rw[M]at i;simp at i
 | _=>
  rw[T]at h;dsimp only at h;refine⟨λn X p _=>k h n X p,λX v x U _ l Y=>Nv.okN ?_ Y,Yy b⟩;unfold opR at h;unfold execOp;rw[T]at h⊢;dsimp only at h⊢
  first
   | contradiction
   | exact Nv.value _
   | exact Nv.bind λx=>Nv.value x
   | exact Nv.bind λ_=>Nv.value _
   | exact Nv.bind λ_=>Nv.skip
   | exact Nv.bind λ_=>Nv.bind λ_=>Nv.value _
   | (
     split
     all_goals first
      | exact Nv.nev (Jx _)
      | exact Nv.value _
      | (
       split
       all_goals first
        | exact Nv.nev (Jx _)
        | exact Nv.value _
        | exact Nv.bind λ_=>Nv.bind λ_=>Nv.bind λ_=>Nv.value _
        | (
          refine Nv.bind λ_=>Nv.bind λ_=>?_;split
          ·exact Nv.nev (D8 (Cz iP trivial))
          ·exact Nv.value _)))
def Aln(N:Ia P){S D}(H:∀f,S f=tu→∃u c,P.funcs[f]? = ni u∧(u.name == "runtime.NumGoroutine")=o9∧u.body=ni c)(e:∀f,S f=tu→W f)(E:Ajv S D):∀{c},I7 P S D u c=tu→PI P ⟨W,Xy D⟩ u c:=by
 intro c
 induction c with
 | region n d i=>
  intro h j o g;exact Adq N H e E (cX.1 h o (cI g))
 | seq a b I C=>intro h;simp only[I7,aS]at h;exact⟨I h.1,C h.2⟩
 | cond c a b I C=>intro h;simp only[I7,aS]at h;exact⟨⟨h.1.1,I h.1.2⟩,C h.2⟩
 | block n b O=>intro h;exact O h
 | loop b O=>intro h;exact O h
 | scope b O=>intro h;exact O h
 | rangeFunc f k a b I C=>intro h;cases h
 | refuse s=>intro h;cases h
 | _=>intro _;trivial
def Ys(P:vg)(L:List pz)(D:Dv)(f:pz):Bool:=
 match P.funcs[f]? with
 | some fn=>!(fn.name == "runtime.NumGoroutine") && (match fn.body with|some c=>I7 P (L.contains ·) D f c|none=>o9)
 | none=>o9
def noD:Dv:=⟨λ_=>[],su⟩
def QU(P:vg)(L:List pz)(f:pz):Bool:=Ys P L noD f
def UL(L:List pz)(D:Dv):Env:=⟨(·∈L),Xy D⟩
def env(L:List pz):Env:=UL L noD
def A4(f)(a:iB):(env L).reg f a:=λj l=>by cases l
def VD(N:Ia P){D}(E:Ajv (L.contains ·) D)(h:∀f,f∈L->Ys P L D f=tu):UA P (UL L D):=by
 have n:∀f,f∈L→∃u c,P.funcs[f]? = ni u∧(u.name == "runtime.NumGoroutine")=o9∧u.body=ni c∧I7 P (L.contains ·) D f c=tu:=λf I=>by
  have:=h f I;unfold Ys at this;cases C:P.funcs[f]? with
  | none=>rw[C]at this;cases this
  | some u=>
   grind
 intro f I;obtain⟨u,c,C,J,T,q⟩:=n f I;refine⟨u,c,C,J,T,Aln N (S:=(L.contains ·)) (λg G=>?_) (λg G=>by simpa using G) E q⟩
 grind
def Adr(N:Ia P)(h:∀f,f∈L->QU P L f=tu):UA P (env L):=VD N (λg e=>BB) h
end
def Fw.then{P a J}{b c:o5->y->Prop}{g}(h:Fw P a J b g v)(z:∀g v,b g v->EV P a J c g v):Fw P a J c g v:=by
 obtain⟨T,h⟩:=h
 induction T generalizing g v with
 |leaf=>exact z g v (h.2 v.drawn) h.1
 |node f O=>
  have ⟨Q,Y,h⟩:=h;refine Fw.step Q Y λd=>?_;have ⟨R,U,C,e⟩:=h d
  grind
def Tc:Obj->Obj
 |.cells _ e fz=>.cells #[] e fz
 |o=>o
open Classical in
def Bb(Bs:hY)(w:y):y:={ w with heap:=w.1.mapIdx λi o=>if Bs i then Tc o else o }
open Classical in
def Cb(Bs:hY)(w u:y):y:={ u with heap:=u.1.mapIdx λi o=>if Bs i then(w.1[i]?).getD o else o }
def RowsIn(Bs:hY)(w:y):Prop:=∀i,Bs i->∃c e fz,w.1[i]?=ni (.cells c e fz)
structure Df(Bs:hY)(w u:qg):Prop where
 blank:∀i,Bs i->∃c e fz,w.1[i]?=ni (.cells c e fz)/\u.1[i]?=ni (.cells #[] e fz)
section
variable {u:y}
open Classical in
theorem Rm(i):(Cb Bs w u).1[i]?=(u.1[i]?).map λo=>if Bs i then(w.1[i]?).getD o else o:=by
 unfold Cb;simp
def D3(h:Df Bs w u)(V:Bs i):(Cb Bs w u).1[i]?=w.1[i]?:=by
 have ⟨c,e,b,C,J⟩:=h.blank i V;rw[Rm,J,aI,aJ V,C];rfl
def By(V:¬Bs i):(Cb Bs w u).1[i]?=u.1[i]?:=by
 rw[Rm]
 grind
def Bj:(Cb Bs w u).1.size=iS u.1:=by unfold Cb;simp
def Bu(i):(Bb Bs w).1[i]?=(w.1[i]?).map λo=>@ite _ (Bs i) (Classical.propDecidable _) (Tc o) o:=by
 unfold Bb;simp
def Ga(h:RowsIn Bs w):Df Bs w (Bb Bs w):=⟨λi V=>by
 have ⟨c,e,a,C⟩:=h i V;exact⟨c,e,a,C,by rw[Bu,C,aI,aJ V];rfl⟩⟩
def Jc(h:RowsIn Bs w):Cb Bs w (Bb Bs w)=w:=by
 have e:(Cb Bs w (Bb Bs w)).1=w.heap:=by
  apply bV;intro i;by_cases V:Bs i
  ·exact D3 (Ga h) V
  ·rw[By V,Bu]
   grind
 cases w;simp only[Cb,World.mk.injEq]at e⊢;exact⟨e,iP,iP,iP,iP⟩
def Df.at(h:Df Bs w u)(d):Df Bs w (u.at d):=⟨h.blank⟩
def Df.frame(h:Df Bs w u){X}(f:Da u O X):Df Bs w O:=⟨λi V=>by
 have ⟨c,e,a,C,J⟩:=h.blank i V;have ⟨B,T,q⟩:=f.row i _ _ _ J
 grind⟩
def Un{a}(h:¬Bs a.block):(Cb Bs w u).cell? a=u.cell? a:=by unfold sw;rw[By h]
def Um(h:Df Bs w u){a}(V:Bs a.block):(Cb Bs w u).cell? a=w.cell? a:=by unfold sw;rw[D3 h V]
def Yp(h:Df Bs w u){a}(V:Bs a.block):u.cell? a=su:=by
 have ⟨c,e,b,C,J⟩:=h.blank _ V;unfold sw;rw[J];simp
def Ks(h:Df Bs w u){e}(N:Ht u e):(∀a,e.loc=.cell a->¬Bs a.block)/\(∀r,e.loc=.obj r->¬Bs r)/\Ht (Cb Bs w u) e:=by
 have ⟨l,wr,Y⟩:=e;cases l with
 |cell a=>
  have ⟨x,Z⟩:=N;have z:¬Bs a.block:=λV=>by rw[Yp h V]at Z;cases Z
  exact⟨λb e=>(by cases e;exact z),λr e=>BB,x,(by rwa[Un z])⟩
 |obj r=>
  have ⟨o,O,M⟩:=N;have z:¬Bs r:=λV=>by
   have ⟨c,e,d,C,J⟩:=h.blank _ V;rw[J]at O;cases O;exact M.1 _ _ _ iP
  exact⟨λb e=>BB,λq e=>(by cases e;exact z),o,(by rwa[By z]),M⟩
 |mark m=>exact⟨λb e=>BB,λq e=>BB,N⟩
 |output=>exact N.elim
 |goroutines=>exact N.elim
def Ij(W:RowsIn Bs w)(h:Df Bs w u)(Q:r u):r (Cb Bs w u):=λi o O=>by
 by_cases V:Bs i
 ·rw[D3 h V]at O;have ⟨c,e,a,C⟩:=W i V;rw[C]at O;cases O;trivial
 ·rw[By V]at O;exact Q i o O
def Tj(h:Df Bs w u){X}(f:Da u O X):Da (Cb Bs w u) (Cb Bs w O) X:=by
 have P:=h.frame f;refine⟨by rw[Bj,Bj];exact f.size,λb d z=>?_,λr o a M z=>?_,λr c e g Y=>?_,λr o a M=>?_,f.tape,f.os,f.output⟩
 ·by_cases V:Bs b.block
  ·rw[Um h V,Um P V]
  ·rw[Un V,Un V];exact f.cell b (by rwa[Bj]at d) z
 ·by_cases V:Bs r
  ·rw[D3 h V]at a;rwa[D3 P V]
  ·rw[By V]at a⊢;exact f.obj r o a M z
 ·by_cases V:Bs r
  ·rw[D3 h V]at Y;rw[D3 P V];exact⟨c,Y,iP⟩
  ·rw[By V]at Y⊢;exact f.row r c e g Y
 ·by_cases V:Bs r
  ·rw[D3 h V]at a;rw[D3 P V];grind
  ·rw[By V]at a⊢;exact f.5 r o a M
end
section
variable {P:vg} {J:hZ} {u:y}
def Sm.hide{x}(h:Df Bs w u)(s:Sm n t J (Cb Bs w u) x):Sm n t J u x:=by
 refine⟨by have:=s.top;rwa[Bj]at this,by have:=s.lt;rwa[Bj]at this,by have:=s.out;rwa[Bj]at this,λi o O=>?_,s.tape,s.drawn,s.os,s.output⟩;by_cases V:Bs i
 ·obtain⟨c,e,d,C,b⟩:=h.blank i V;rw[b]at O;cases O;obtain⟨I,G,K⟩:=s.4 i _ ((D3 h V).trans C);exact E90
 ·exact s.4 i o (by rwa[By V])
def Sm.show{x d}(h:Df Bs w u)(g:Df Bs w O)(s:Sm n t J (Cb Bs w u) x)(v:Sm n t J O d){L:Array yn}(f:Da x d (L.map (Kt n)))(c:∀e∈L,Ht O e):Sm n t J (Cb Bs w O) d:=by
 refine⟨by have:=v.top;rwa[←Bj (Bs:=Bs) (w:=w)]at this,by have:=v.lt;rwa[←Bj (Bs:=Bs) (w:=w)]at this,by have:=v.out;rwa[←Bj (Bs:=Bs) (w:=w)]at this,λi o b=>?_,v.tape,v.drawn,v.os,v.output⟩;by_cases V:Bs i
 ·rw[D3 g V]at b;obtain⟨E,e,p,C,_⟩:=h.blank i V;rw[C]at b;cases b;obtain⟨I,G,K⟩:=s.4 i _ ((D3 h V).trans C);have P:∃B,I=.cells B e p:=by
   rcases K with rfl|⟨Q,B,S,R,a,rfl,_⟩|⟨_,z,_⟩|⟨B,S,R,a,rfl⟩
   ·exact⟨_,iP⟩
   ·grind
   ·exact absurd iP (z _ _ _)
   grind
  obtain⟨B,rfl⟩:=P;obtain⟨k,q,N⟩:=f.row _ _ _ _ G;have:k=B:=bV λj=>by
   have:=f.cell ⟨sh n i,j,su⟩ (aH.1 G).1 (λH r _ D=>by
    obtain⟨F,m,rfl⟩:=Array.mem_map.1 r;obtain⟨y,Z,_⟩:=Ks g (c F m);obtain⟨l,wr,Y⟩:=F;cases l with
    |cell A=>
     simp only[Kt,Gg,Loc.cell.injEq,Ei,Addr.mk.injEq]at D;exact y A iP (by rwa[Gx D.1])
    |_=>cases D)
   simpa[sw,q,G] using this
  grind
 ·rw[By V]at b;exact v.4 i o b
def Hk.over(W:RowsIn Bs w)(d:Df Bs w u)(s:Hk P main J h u g' O):Hk P main J h (Cb Bs w u) g' (Cb Bs w O)/\Df Bs w O:=by
 have ⟨X,a,K⟩:=s.frame;have f:=d.frame a;refine⟨⟨s.run,Ij W f s.plain,⟨X,Tj d a,λb N=>⟨(Ks f (K b N).1).2.2,(K b N).2⟩⟩,λn t x p g Z=>?_⟩,f⟩;rw[Bj]at g;have ⟨i,G,L,C,j,T,q,z⟩:=s.all n t x p g (Z.hide d);exact⟨i,G,L,C,Z.show d f j T λb N=>(q b N).1,T,λb N=>⟨(Ks f (q b N).1).2.2,(q b N).2⟩,z⟩
def Fw.over{a:o5->y->Prop}(W:RowsIn Bs w)(b:Df Bs w u)(I:Fw P main J a h u):Fw P main J (λh x=>∃u,x=Cb Bs w u/\Df Bs w u/\a h u) h (Cb Bs w u):=by
 obtain⟨T,I⟩:=I
 induction T generalizing h u with
 |leaf=>exact⟨.leaf,Ij W b I.1,λd=>⟨u.at d,iP,b.at d,I.2 d⟩⟩
 |node f O=>
  have ⟨Q,Y,I⟩:=I;refine Fw.step (Ij W b Q) Y λd=>?_;have ⟨g',U,C,c⟩:=I d;have ⟨e,q⟩:=C.over W (b.at d);exact⟨g',Cb Bs w U,e,O d q c⟩
def M5{S}(k:UA P S)(I:S f)(W:RowsIn Bs w)(D:Kn J (Bb Bs w))(K:Pp J w.1.size){a:iB}(j:S.reg f (ow P f a .normal).tmps){R:Ending->y->Prop}(g:∀c v,¬R (.panicked c) v)(N:∀v,¬R .outgrown v)(H:∀v,Twin (Bb Bs w) v->Calls P f a v R):Bg P main J Stop f a w (λval x=>∃u U,x=Cb Bs w u/\Df Bs w u/\Twin u U/\u.tape=w.tape/\R (.returned val) U):=by
 obtain⟨l,c,e,s,d,T⟩:=k f I;refine⟨l,c,e,s,d,λX cs L F Q=>?_⟩;have q:r (Bb Bs w):=λi o O=>by
  exact Vb9
 have C:(Bb Bs w).1.size=iS w.1:=by unfold Bb;simp
 have M:=Aka (main:=main) (Stop:=λh u=>∃val U,h=G (X.finish val) cs/\Twin u U/\u.tape=w.tape/\R (.returned val) U) (c0:=X) (cs0:=cs) k I q D (C▸K) j g N H
  (λval B U b E Y=>EV.stop λm=>⟨val,U,iP,⟨b.1,b.os,b.output⟩,E,Y⟩)
 rw[enter_at _ e d]at M;have O:=M.over W (Ga W);rw[Jc W]at O;refine O.then λh x⟨u,Z,n,val,U,p,b,E,Y⟩=>?_
 grind
end
def VR{β:Type}:ForInStep β->β
 |.yield x=>x
 |.done x=>x
def XT{b:Type}{Pr:a->Prop}{f:b->a->Option (ForInStep a)}(h:∀d c r,Pr c->f d c=ni r->Pr (VR r)):∀(l:List b)c r,Pr c->forIn l c f=ni r->Pr r:=by
 intro l
 induction l with
 |nil=>grind
 |cons d l O=>
  intro c r D Y;rw[fQ]at Y;cases I:f d c with
  |none=>grind
  |some s=>
   rw[I]at Y;have:=h d c s D I;cases s with
   |yield x=>exact O x r this Y
   |done x=>simp at Y;subst Y;exact this
def X8(n:Z)(c:iB):Prop:=c.map (A1 n)=c
def KN(n:Z)(i:ud):Prop:=∀z,i.zero=ni z->A1 n z=z
def EF{z}(h:A1 n z=z):X8 n z.cells:=by
 unfold X8;rw[←Ke,h]
def QR{a:mi->Option ud}(V:∀t i,a t=ni i->KN n i){L i}(h:Made.reckonStruct a L=ni i):KN n i:=by
 unfold Made.reckonStruct at h;simp only[eE,bL]at h;obtain⟨s,e,h⟩:=h;have N:∀c,s.2.2.2.2.2.2.2.1=ni c->X8 n c:=by
  rw[←eZ]at e;refine XT (Pr:=λs:Array Field×Nat×Nat×Nat×Nat×Bool×Bool×Option (Array w8)×String=>∀c,s.2.2.2.2.2.2.2.1=ni c->X8 n c) (λf g r D Y=>?_) _ _ _ (by intro c M;simp at M;subst M;unfold X8;simp) e;simp only[bL]at Y;obtain⟨k,E,Y⟩:=Y;have b:∀q [Decidable q] c,(if q then su else g.2.2.2.2.2.2.2.1 >>= λz=>k.zero >>= λy=>ni (z++y.cells))=ni c->X8 n c:=λq _ c M=>by
   split at M
   ·cases M
   ·cases N:g.2.2.2.2.2.2.2.1 with
    |none=>rw[N]at M;cases M
    |some z=>
     rw[N]at M;cases U:k.zero with
     |none=>rw[U]at M;cases M
     |some y=>
      rw[U]at M;obtain rfl:=aA M;unfold X8;rw[dD,D z N,EF (V _ k E y U)]
  have u:∀{x},ni (ForInStep.yield x)=ni r->(∀c,x.2.2.2.2.2.2.2.1=ni c->X8 n c)->∀c,(VR r).2.2.2.2.2.2.2.1=ni c->X8 n c:=λC J=>by
   obtain rfl:=aA C;exact J
  by_cases C:k.str.isEmpty=tu
  ·simp[C]at Y
  ·by_cases J:f.4=tu
   ·simp[C,J]at Y
   ·simp only[C,J,aR,bQ]at Y;by_cases T:f.tag.isEmpty=tu
    ·simp only[T,bP,bL]at Y;exact Wwv
    ·simp only[T,aR,bQ,bL]at Y;exact Wwv
 intro z B;have:∃c,s.2.2.2.2.2.2.2.1=ni c/\z=.agg c:=by
  split at h
  all_goals
   simp at h;subst h;simp at B;obtain⟨c,C,J⟩:=B;exact⟨c,C,J.symm⟩
 obtain⟨c,C,rfl⟩:=this;rw[Cc,N c C]
def N4{d s z c}(h:A1 n z=z):KN n (Made.word d s z c b):=λy U=>by
 simp[Made.word]at U;subst U;exact h
def Acp{c}(h:X8 n c)(k):X8 n (pf k c).flatten:=by
 unfold X8 at *
 simp_all
def QQ{a:mi->Option ud}(V:∀t i,a t=ni i->KN n i){d i}(h:Made.reckon a d=ni i):KN n i:=by
 unfold Made.reckon at h;cases d with
 |struct L=>exact QR V h
 |pointer e=>
  simp only[eE,bL]at h;obtain⟨k,E,h⟩:=h;split at h
  ·cases h
  ·split at h
   ·cases h
   ·exact Kna
  ·exact Kna
 |slice e=>
  exact Juw
 |map k e=>
  simp only[eE,bL,fR,aW]at h;obtain⟨_,_,_,_,_,_,_,_,rfl⟩:=h;exact N4 Ad
 |chan b e=>
  exact Juw
 |func c r v=>
  simp only[eE,bL,fR,aW]at h;obtain⟨_,_,rfl⟩:=h;exact N4 Ad
 |array k e=>
  simp only[eE,bL,fR,aW]at h;obtain⟨q,f,_,_,rfl⟩:=h;intro z N;dsimp only at N;split at N
  ·cases N
  ·split at N
   ·simp at N;subst N;simp
   ·simp at N;obtain⟨y,U,rfl⟩:=N;rw[Cc,Acp (EF (V _ q f y U))]
 |_=>simp at h
def Zw{T}(F:∀(t:Nat)i,T.types[t]?=ni i->KN n i):∀(k t:Nat)i,Made.infoAt T k t=ni i->KN n i
 |0,t,i,h=>by cases h
 |k+1,t,i,h=>by
  unfold Made.infoAt at h;split at h
  ·exact F t i h
  ·simp only[bL]at h;have ⟨d,_,h⟩:=h;exact QQ (Zw F k) h
def OZ(P:vg):Bool:=P.types.all λi=>match i.zero with|some z=>GS z|none=>tu
def Aat{P}(h:OZ P=tu):Ia P:=λt i z V N n=>by
 have F:∀t(i:ud),P.types[t]?=ni i->KN n i:=λt i V z N=>by
  unfold OZ at h;rw[cX]at h;have:=h i (cI V);rw[N]at this;exact Xo this
 unfold Tables.info? at V;split at V
 ·exact F t i V z N
 ·exact Zw F _ _ _ V z N
def Ren.Ag(n m m':Z):Prop:=∀i,sh n i=i->sh m i=sh m' i
def JL(h:n.Ag m q){a}(d:Ei n a=a):Ei m a=Ei q a:=by
 have ⟨b,f,s⟩:=a;simp only[Ei,Addr.mk.injEq,and_true]at d⊢;exact h b d
def Tr{f g R:a->a}{c:Array a}(M:c.map f=c)(h:∀y∈c,f y=y->g y=R y):c.map g=c.map R:=by
 grind
def VM(h:n.Ag m q){f}(I:Mp n f=f):Mp m f=Mp q f:=by
 cases f with
 |yield l=>simp only[Mp,Fn.yield.injEq]at I⊢;exact h l I
 |_=>rfl
def Ja(h:n.Ag m q):(x:w8)->A1 n x=x->A1 m x=A1 q x
 |.pointer a,Z=>by
  cases a with
  |none=>simp
  |some a=>simp only[A8,aI,Value.pointer.injEq,aW]at Z⊢;exact JL h Z
 |.slice a l c,Z=>by
  cases a with
  |none=>simp
  |some a=>simp only[Bo,aI,Value.slice.injEq,aW,and_true]at Z⊢;exact JL h Z
 |.map r,Z=>by
  cases r with
  |none=>simp
  |some r=>simp only[Db,aI,Value.map.injEq,aW]at Z⊢;exact h r Z
 |.chan r,Z=>by
  cases r with
  |none=>simp
  |some r=>simp only[Dh,aI,Value.chan.injEq,aW]at Z⊢;exact h r Z
 |.func f a b,Z=>by
  simp only[Cn,Value.func.injEq]at Z⊢;exact⟨VM h Z.1,Tr Z.2.1 λy U e=>Ja h y e,Tr Z.2.2 λy U e=>Ja h y e⟩
 |.iface t v,Z=>by
  simp only[Cf,Value.iface.injEq,true_and]at Z⊢;exact Ja h v Z
 |.agg cs,Z=>by
  simp only[Cc,Value.agg.injEq]at Z⊢;exact Tr Z λy U e=>Ja h y e
 |.tuple cs,Z=>by
  simp only[Cd,Value.tuple.injEq]at Z⊢;exact Tr Z λy U e=>Ja h y e
 |.bool b,_=>Ad
 |.int k i,_=>Ad
 |.float k b,_=>Ad
 |.complex k x y,_=>Ad
 |.string s,_=>Ad
 |.nilFunc,_=>Ad
 |.nilIface,_=>Ad
structure GL(P J)(t:Ren->Sem vi)(v x v'):Prop where
 plain:Plain v->Plain v'
 frame:Plain v->∃es,Da v v' es/\∀e∈es,Ht v' e/\Fb J e
 all:Plain v->∀n(t0:Nat)w,n.Fix P.globals.size->iS v'.1<=t0->Sm n t0 J v w->∃(w':qg)(y:vi)(fs:Array yn),(t n).run P w=.ok y w'/\(y=.value (A1 n x)∨(y=.skip/\x=uw))/\Sm n t0 J v' w'/\Da w w' (fs.map (Kt n))/\(∀e∈fs,Ht v' e/\Fb J e)/\∀e∈(t n).events P w #[],e∈fs.map (Kt n)
def Fv(a:Act)(o:km)(n:Z):Sem vi:=execOp (Bw n a).eval o
section
variable {P:vg} {J:hZ} {a:Act} {S:Env} {g:Array km}
def IU(h:opsV P main J N fn g l Q a w)(d):opsV P main J N fn g l Q a (w.at d):=λb k z D E M=>EV.at (h b k z D E M) d
def Cq(h:Hj P main J N fn c Q a w)(d):Hj P main J N fn c Q a (w.at d):=λb k z D E M=>EV.at (h b k z D E M) d
def WU{b}(h:Bg P main J N f b w Y)(d):Bg P main J N f b (w.at d) Y:=by
 have ⟨fn,c,C,a,T,q⟩:=h;exact⟨fn,c,C,a,T,λX cs L z=>EV.at (q X cs L z) d⟩
def Bp{b E}(h:Bg P main J N f b w Y)(H:∀x B,Y x B->E x B):Bg P main J N f b w E:=by
 have ⟨fn,c,C,a,T,q⟩:=h;exact⟨fn,c,C,a,T,λX cs L z=>q X cs L λv B Q=>z v B (H v B Q)⟩
def Su{b:zq}{k cs}{rest:iG}(O:g[i]?=ni o)(W:Region.wanted o (gu g a.tmps)=tu)(E:b.kind≠.early)(Y:(execOp a.eval o).run P w=.ok .skip B):ig P main (G (b.at a (.inRegion g (i::rest)::k)) cs) w=.go (G (b.at (a.put o.dst uw) (.inRegion g rest::k)) cs) B (listed P b.fn a o w):=by
 have Q:(b.at a (.inRegion g (i::rest)::k)).finish uw=b.at (a.put o.dst uw) (.inRegion g rest::k):=by rw[Frame.finish_at,O];rfl
 rw[stepG_oper O W,←Q];simp[stepG.apply,Y,G,(by simpa using E),th,listed,Frame.at]
def EV.opRob{b:zq}(E:b.kind=.normal)(O:g[i]?=ni o)(A:Region.wanted o (gu g a.tmps)=tu)(H:∀d,∃x U,GL P J (Fv a o) (w.at d) x U/\EV P main J N (G (b.at (a.put o.dst x) (.inRegion g l::k)) z) U):EV P main J N (G (b.at a (.inRegion g (i::l)::k)) z) w:=by
 have K:b.kind≠.early:=by rw[E];decide
 refine EV.step iP λm d=>?_;obtain⟨x,U,Y,F⟩:=H d;have j:Plain (w.at d):=m;refine⟨G (b.at (a.put o.dst x) (.inRegion g l::k)) z,U,⟨iP,Y.plain j,Y.frame j,λn t W p R s=>?_⟩,F⟩;obtain⟨f,y,L,C,h,T,q,c,r⟩:=Y.all j n t W p R s;have B:Region.wanted o (gu g (Bw n a).tmps)=tu:=by
  exact Vj8
 have M:∀e∈listed P b.fn (Bw n a) o W,e∈L.map (Kt n):=λe u=>r e (mem_seen u);rcases h with rfl|⟨rfl,rfl⟩
 ·refine⟨f,_,L,?_,T,q,c,M⟩;have:=stepG_value (P:=P) (main:=main) (b:=b) (a:=Bw n a) (rest:=l) (k:=k.map (Dg n)) (cs:=z.map (Bm n)) (w:=W) O B K C
  rwa[No]at this
 ·refine⟨f,_,L,?_,T,q,c,M⟩;have:=Su (P:=P) (main:=main) (b:=b) (a:=Bw n a) (rest:=l) (k:=k.map (Dg n)) (cs:=z.map (Bm n)) (w:=W) O B K C;have e:=No n a o.dst undef;rw[Eu]at e
  rwa[e]at this
def Qq(O:g[i]?=ni o)(A:Region.wanted o (gu g a.tmps)=tu)(H:∀d,∃x U,GL P J (Fv a o) (w.at d) x U/\opsV P main J N fn g l Q (a.put o.dst x) U):opsV P main J N fn g (i::l) Q a w:=
 λb k z D E v=>EV.opRob E O A λd=>have ⟨x,U,Y,F⟩:=H d;⟨x,U,Y,F b k z D E v⟩
def Qy(V:Nx P S fn o)(j:S.reg fn a.tmps)(d:Yields P (execOp a.eval o) v x U)(N:∀e∈(execOp a.eval o).events P v #[],Fb J e):GL P J (Fv a o) v x U:=by
 have r:∀b:Act,((default:zq).at b []).eval=b.eval:=λb=>funext λy=>qb (default:zq) b [] y;have c:∀n:Ren,n.Fix P.globals.size->Rf P n (Ku n) (execOp a.eval o) (Fv a o n):=λn p=>by
  have:=V.rf n ((default:zq).at a []) p j
  rwa[Gu,cO,r,r]at this
 obtain⟨l,F⟩:=Sr;have f:∃y,(y=.value x∨(y=.skip/\x=uw))/\(execOp a.eval o).run P v=.ok y U:=by
  rcases d with d|⟨d,rfl⟩
  ·grind
  grind
 obtain⟨y,Z,Y⟩:=f;refine⟨λQ=>((c l (F _)).mono v y U Q Y).1,λQ=>?_,λQ n u w p R s=>?_⟩
 ·obtain⟨_,i,k⟩:=(c l (F _)).mono v y U Q Y
  grind
 ·obtain⟨_,_,k⟩:=(c l (F _)).mono v y U Q Y;obtain⟨B,C,g,T,q⟩:=(c n p).sim J u v w s Q N y U Y R;exact Tqd
def GL.over{t:Ren->Sem vi}{u}(W:RowsIn Bs w)(d:Df Bs w u)(S:r (Cb Bs w u)->r u)(Y:GL P J t u x O):GL P J t (Cb Bs w u) x (Cb Bs w O)/\(r u->Df Bs w O):=by
 refine⟨⟨λQ=>?_,λQ=>?_,λQ n i y p R Z=>?_⟩,λQ=>let⟨_,c,_⟩:=Y.frame Q;d.frame c⟩
 ·have ⟨X,c,_⟩:=Y.frame (S Q);exact Ij W (d.frame c) (Y.plain (S Q))
 ·have ⟨X,c,K⟩:=Y.frame (S Q);exact⟨X,Tj d c,λb N=>⟨(Ks (d.frame c) (K b N).1).2.2,(K b N).2⟩⟩
 ·have ⟨X,c,_⟩:=Y.frame (S Q);have f:=d.frame c;rw[Bj]at R;have ⟨a,e,L,C,g,j,T,q,z⟩:=Y.all (S Q) n i y p R (Z.hide d);exact⟨a,e,L,C,g,Z.show d f j T λb N=>(q b N).1,T,λb N=>⟨(Ks f (q b N).1).2.2,(q b N).2⟩,z⟩
def Qw(Q:r w):r (Bb Bs w):=λi o O=>by
 exact Vb9
def Dd:(Bb Bs w).1.size=iS w.1:=by unfold Bb;simp
def BF(V:Nx P S fn o)(j:S.reg fn a.tmps)(W:RowsIn Bs w)(D:Kn J (Bb Bs w))(K:Pp J w.1.size){R:iH}(H:∀L,Twin (Bb Bs w) L->∃x p,Yields P (execOp a.eval o) L x p/\R x p)(d)(Q:Plain w):∃x u,GL P J (Fv a o) (w.at d) x (Cb Bs w u)/\Df Bs w u/\u.tape=w.tape/\R x u:=by
 obtain⟨x,u,U,c⟩:=H ((Bb Bs w).at d) ⟨iP,iP,iP⟩;have q:Plain ((Bb Bs w).at d):=Qw Q;have r:∀b:Act,((default:zq).at b []).eval=b.eval:=λb=>funext λy=>qb (default:zq) b [] y;obtain⟨l,F⟩:=Sr;have m:Rf P l (Ku l) (execOp a.eval o) (Fv a o l):=by
  have:=V.rf l ((default:zq).at a []) (F _) j
  rwa[Gu,cO,r,r]at this
 have n:∃y,(execOp a.eval o).run P ((Bb Bs w).at d)=.ok y u:=by
  rcases U with U|⟨U,rfl⟩
  ·exact⟨_,U⟩
  ·exact⟨_,U⟩
 obtain⟨y,Y⟩:=n;obtain⟨i,f,k⟩:=m.mono _ y u q Y;have z:Kn J ((Bb Bs w).at d):=D;have g:Pp J ((Bb Bs w).at d).1.size:=by
  have:((Bb Bs w).at d).1.size=iS w.1:=Dd
  rwa[this]
 have t:∀e∈(execOp a.eval o).events P ((Bb Bs w).at d) #[],Fb J e:=λe N=>z.frame g f e (k e N);have s:Cb Bs w ((Bb Bs w).at d)=w.at d:=by
  have:=Jc W;have v:Cb Bs w ((Bb Bs w).at d)=(Cb Bs w (Bb Bs w)).at d:=iP;rw[v,this]
 have:=GL.over W ((Ga W).at d) (λ_=>q) (Qy (J:=J) V j U t);rw[s]at this;exact⟨x,u,this.1,this.2 q,f.tape,c⟩
def YT(O:g[i]?=ni o)(v:Region.wanted o (gu g a.tmps)=tu)(V:Nx P S fn o)(j:S.reg fn a.tmps)(W:RowsIn Bs w)(D:Kn J (Bb Bs w))(K:Pp J w.1.size){R:iH}(H:∀L,Twin (Bb Bs w) L->∃x p,Yields P (execOp a.eval o) L x p/\R x p)(F:∀x u,Df Bs w u->u.tape=w.tape->R x u->opsV P main J N fn g l Q (a.put o.dst x) (Cb Bs w u)):opsV P main J N fn g (i::l) Q a w:=λb k z c E M e=>
 Qq O v (λd=>let⟨x,u,C,f,T,q⟩:=BF V j W D K H d e;⟨x,_,C,F x u f T q⟩) b k z c E M e
def Aey(Y:∀n w,n.Fix P.globals.size->(Fv a o n).run P w=.ok (.value (A1 n x)) w)(N:∀n w,(Fv a o n).events P w #[]=#[]):GL P J (Fv a o) v x v:=
 ⟨id,λ_=>⟨#[],.refl _ _,Ad⟩,λQ n u w p R s=>⟨w,_,#[],Y n w p,.inl iP,s,.refl _ _,Ad,by simp[N n w]⟩⟩
def R6(V:Nx P S fn o)(j:S.reg fn a.tmps)(Y:∀w,(execOp a.eval o).run P w=.ok (.value x) w)(N:∀w,(execOp a.eval o).events P w #[]=#[]):GL P J (Fv a o) v x v:=
 Qy V j (.inl (Y v)) (by rw[N];simp)
def Fh{x}(O:g[i]?=ni o)(W:Region.wanted o (gu g a.tmps)=tu)(V:Nx P S fn o)(j:S.reg fn a.tmps)(Y:∀w,(execOp a.eval o).run P w=.ok (.value x) w)(b:∀w,(execOp a.eval o).events P w #[]=#[])(h:opsV P main J N fn g l Q (a.put o.dst x) w):=
 Qq O W λd=>⟨x,w.at d,R6 V j Y b,IU h d⟩
def Cy{x v'}(O:g[i]?=ni o)(W:Region.wanted o (gu g a.tmps)=tu)(V:Nx P S fn o)(j:S.reg fn a.tmps)(Y:∀d,Yields P (execOp a.eval o) (w.at d) x (v'.at d))(b:∀d,∀e∈(execOp a.eval o).events P (w.at d) #[],Fb J e)(h:opsV P main J N fn g l Q (a.put o.dst x) v'):=
 Qq O W λd=>⟨x,v'.at d,Qy V j (Y d) (b d),IU h d⟩
end
def Ren.one:Z:=⟨id,λh=>h⟩
def Ren.up(M:Nat):Z:=⟨λi=>if i<M then i else i+1,λ{i j} h=>by
 split at h<;>split at h<;>omega⟩
def Ix(h:i<M):sh (.up M) i=i:=aJ h
def Apk(h:M<=i):sh (.up M) i=i+1:=aL Aa
def Afw:sh (.up M) i=i↔i<M:=by
 unfold sh Z.up;simp only;split<;>omega
def Ren.one_fix(G):Z.one.Fix G:=λ_ _=>rfl
def Ren.up_fixG{G}(h:G<=M):(Z.up M).Fix G:=λi V=>Ix Aa
def UD{M}(h:∀i,i<M->sh m i=sh q i):(Z.up M).Ag m q:=λi V=>h i (Afw.1 V)
def AD{f:a->a}(c:Array a)(h:∀y∈c,f y=y):c.map f=c:=by
 grind
def Q5(i):sh .one i=i:=iP
def Y1(a):Ei .one a=a:=iP
def NV(f):Mp .one f=f:=by cases f<;>rfl
def Ez:(x:w8)->A1 .one x=x
 |.pointer a=>by cases a<;>simp[Y1]
 |.slice a l c=>by cases a<;>simp[Y1]
 |.map r=>by cases r<;>simp[Q5]
 |.chan r=>by cases r<;>simp[Q5]
 |.func f a b=>by
  rw[Cn,NV,AD a λy U=>Ez y,AD b λy U=>Ez y]
 |.iface t v=>by rw[Cf,Ez v]
 |.agg cs=>by rw[Cc,AD cs λy U=>Ez y]
 |.tuple cs=>by rw[Cd,AD cs λy U=>Ez y]
 |.bool b=>Ad
 |.int k i=>Ad
 |.float k b=>Ad
 |.complex k x y=>Ad
 |.string s=>Ad
 |.nilFunc=>Ad
 |.nilIface=>Ad
def Qo{f:w8->w8}(h:∀x,f x=x)(c:iB):=AD c λy _=>h y
def Aes(t):Wz .one t=t:=by cases t<;>simp[Wz,NV,Qo Ez,Q5]
def Vg(d):O6 .one d=d:=by cases d;simp[O6,Aes,Qo Ez]
def II{f:a->a}(l:List a)(h:∀y,f y=y):l.map f=l:=by
 conv=>rhs;rw[←fL l]
 exact dH λy _=>h y
def Aeo(x):Iz .one x=x:=by cases x;simp[Iz,Ez]
def AV(o):Dt .one o=o:=by
 cases o with
 |cells c e f=>simp[Dt,Qo Ez]
 |pending c e=>simp[Dt,Qo Ez]
 |view a t=>simp[Dt,Y1]
 |number a b=>simp[Dt,Y1]
 |map X C=>simp only[Dt];rw[AD X λy _=>Aeo y]
 |chan I d x s r t=>simp[Dt,Qo Ez]
 |mapIter m g se h=>cases m<;>simp[Dt,Q5]
 |loop l=>cases l;simp[Dt,Qo Ez,Q5]
 |deferred cs=>simp only[Dt];cases cs with
  |none=>rfl
  |some l=>simp[II l Vg]
 |finalizers L r=>simp only[Dt];rw[AD L λy _=>by simp[Vg,Q5]]
 |_=>rfl
def Aeq(x):Dg .one x=x:=by cases x<;>simp[Dg,Vg,Qo Ez,Q5]
def Aer(m):J5 .one m=m:=by
 cases m with
 |panicking c=>simp[J5,Ez]
 |_=>rfl
def FG(X):Bm .one X=X:=by
 have ⟨a,b,c,d,e,f,g⟩:=X;simp only[Bm,Qo Ez,II c Aeq,II d Vg,Aer];cases g<;>simp[Q5]
def NX(g):Bn .one g=g:=by
 have ⟨a,b,c,d,e⟩:=g;simp only[Bn,FG,II b FG]
section
variable {P:vg} {k:Bool} {J:hZ} {j:pz} {a:Act} {S:Env} {g:Array km}
inductive DO(P k J)(N:o5->qg->Prop)(g)(i:Nat)(K:Act->qg->Prop)(a:Act)(e):Prop
 |unwanted (o:km) (ho:g[i]?=ni o) (hw:Region.wanted o (gu g a.tmps)=o9) (h:K (a.put o.dst uw) e)
 |op (o:km) (ho:g[i]?=ni o) (hw:Region.wanted o (gu g a.tmps)=tu) (h:Plain e->∀d,∃x v',GL P J (Fv a o) (e.at d) x v'/\K (a.put o.dst x) v')
 |call (o:km) (f) (args) (ats) (Post) (ho:g[i]?=ni o) (hw:Region.wanted o (gu g a.tmps)=tu) (hop:o.op=.call { callee:=.value (.func f),args:=args,argTypes:=ats }) (hk:args.all (Eg P.globals.size)=tu)
   (hc:Bg P k J N f (args.map a.eval) e Post) (h:∀x w',Post x w'->K (a.put o.dst x) w')
def DO.mono{F:Act->y->Prop}(b:∀a e,K a e->F a e)(h:DO P k J N g i K a e):DO P k J N g i F a e:=by
 cases h with
 |unwanted o O W h=>exact .unwanted o O W (b _ _ h)
 |op o O W h=>exact .op o O W λQ d=>let⟨x,U,C,c⟩:=h Q d;⟨x,U,C,b _ _ c⟩
 |call o f j m Y O W T E M h=>exact .call o f j m Y O W T E M λx B p=>b _ _ (h x B p)
def YU(O:g[i]?=ni o)(W:Region.wanted o (gu g a.tmps)=tu)(H:r e->∀d,∃x U,GL P J (Fv a o) (e.at d) x U/\opsV P k J N j g l Q (a.put o.dst x) U):opsV P k J N j g (i::l) Q a e:=
 λb f z D E M c=>Qq O W (H c) b f z D E M c
def DO.goesOn(h:DO P k J N g i (λb B=>opsV P k J N j g l Q b B) a e):opsV P k J N j g (i::l) Q a e:=by
 cases h with
 |unwanted o O W h=>exact Bi O W h
 |op o O W h=>exact YU O W h
 |call o f c m Y O W T E M h=>exact EX O W T M h E
def A9(P:vg)(k:Bool)(J:hZ)(N:o5->y->Prop)(md:Region.Mode)(g:Array km)(Q:oj->Act->y->Prop)(I:iA):Nat->Array Bool->Act->y->Prop
 |0,done,a,e=>Region.ready md g done = []/\Q .normal a e
 |fuel+1,done,a,e=>(Region.ready md g done = []->Q .normal a e)/\∀i∈Region.ready md g done,DO P k J N g i (λa' w'=>I w'/\A9 P k J N md g Q I fuel (done.setIfInBounds i tu) a' w') a e
def A9.sound{M}:∀c t(b:Array Bool)a(w:y),A9 P k J N M g Q I c b a w->opsV P k J N j g (Region.linearise.go M g c t b []) Q a w:=by
 intro c
 induction c with
 |zero=>intro t b a w h;simpa[Region.linearise.go] using Au h.2
 |succ c O=>
  intro t b a w h;have ⟨e,U⟩:=h;change opsV P k J N j g (match (Region.ready M g b)[t % (Region.ready M g b).length]? with
   |some i=>Region.linearise.go M g c (t / (Region.ready M g b).length) (b.setIfInBounds i tu) [i]
   |none=>[].reverse) Q a w
  cases V:(Region.ready M g b)[t % (Region.ready M g b).length]? with
  |none=>
   have D:Region.ready M g b = []:=by
    cases Y:Region.ready M g b with
    |nil=>rfl
    |cons x X=>
     rw[Y,fS]at V;exact absurd (Nat.mod_lt t (by simp:(x::X).length > 0)) Aa
   simpa using Au (e D)
  |some i=>
   simp only[];rw[linearise_go_acc,List.reverse_singleton,List.singleton_append];exact DO.goesOn ((U i (aV V)).mono λl B x=>O _ _ l B x.2)
def Em{I}(L:P.follows .mixedOrders=tu)(h:∀d,A9 P k J N .any g Q I g.size (pf g.size o9) a (e.at d)):Hj P k J N j (.region b g tu) Q a e:=by
 intro c f z D E M;refine EV.step iP λi d=>⟨G (c.at a (.inRegion g (Region.schedule (P.follows .mixedOrders) g (e.tape d (.order c.fn b)))::f)) z,{ e.at d with drawn:=d+1 },BO rfl (show r (e.at d) from i) λn u p R y=>?_,?_⟩
 ·rw[Ep,Gu,Ep,Gu];have l:u.tape=e.tape:=R;have s:u.drawn=d:=y;simp[G,ig,zk,Frame.at,choose,p7,oc,qi,l,s,Dg]
 ·simp only[Region.schedule,L,Bool.true_or,bP];exact A9.sound g.size _ _ a _ (h (d+1)) c f z D E M
def YV(P:vg)(J:hZ)(g:Array km)(I:iA)(oi:km)(x:w8)(a:Act):Prop:=
 (Region.wanted oi (gu g a.tmps)=o9->x=uw)/\(Region.wanted oi (gu g a.tmps)=tu->∀e,I e->GL P J (Fv a oi) e x e)
variable {M:Region.Mode}
def DO.at(p:∀a e d,K a e->K a (e.at d))(h:DO P k J N g i K a e)(d):DO P k J N g i K a (e.at d):=by
 cases h with
 |unwanted o O W h=>exact .unwanted o O W (p _ _ d h)
 |op o O W h=>exact .op o O W h
 |call o f b m Y O W T E M h=>exact .call o f b m Y O W T E (WU M d) h
def A9.at(o:∀w d,I w->I (w.at d))(b:∀a w d,Q .normal a w->Q .normal a (w.at d)):∀c(f:Array Bool)a(w:y)d,A9 P k J N M g Q I c f a w->A9 P k J N M g Q I c f a (w.at d)
 |0,_,_,_,d,h=>⟨h.1,b _ _ d h.2⟩
 |c+1,_,_,_,d,h=>⟨λi=>b _ _ d (h.1 i),λj V=>(h.2 j V).at (λa w d e=>⟨o _ d e.1,A9.at o b c _ a w d e.2⟩) d⟩
def YV.opV{G}(o:∀e d,I e->I (e.at d))(p:∀a e d,K a e->K a (e.at d))(V:g[i]?=ni G)(U:YV P J g I G x a)(W:I e)(h:K (a.put G.dst x) e):DO P k J N g i K a e:=by
 cases v:Region.wanted G _ with
 |false=>exact .unwanted G V v (by rwa[U.1 v]at h)
 |true=>exact .op G V v λ_ d=>⟨x,e.at d,U.2 v _ (o _ d W),p _ _ d h⟩
def FO(o)(s:∀cs b,o.op≠.select cs b)(a d y)(h:∀t,d=ni t->¬t∈Oper.looksAt g o):Fv (a.put d y) o=Fv a o:=by
 funext n
 unfold Fv;rw[←No];exact execOp_put o s _ d _ h
def DO.putIf{j G L}(l:g[j]?=ni L)(H:G.apart g L=tu)(n:∀cs b,G.op≠.select cs b)(p:∀cs b,L.op≠.select cs b)(U:YV P J g I G x a)(h:DO P k J N g j K (a.put G.dst x) e):DO P k J N g j (λm B=>YV P J g I G x m/\K (m.put G.dst x) B) a e:=by
 obtain⟨X,c,i⟩:=Oper.apart_spec H;have d:∀y,YV P J g I G x (a.put L.dst y):=λy=>by
  refine⟨λf=>U.1 (by rwa[vk G a L.dst y i]at f),λf e W=>?_⟩;rw[FO G n a L.dst y i];exact U.2 (by rwa[vk G a L.dst y i]at f) e W
 cases h with
 |unwanted o O W h=>
  obtain rfl:L=o:=aA (l.symm.trans O);rw[vk L a G.dst x X]at W;exact .unwanted L O W ⟨d _,by rwa[←o3 a x uw c]⟩
 |op o O W h=>
  obtain rfl:L=o:=aA (l.symm.trans O);rw[vk L a G.dst x X]at W;rw[FO L p a G.dst x X]at h;exact .op L O W λQ q=>let⟨y,r,C,w⟩:=h Q q;⟨y,r,C,d _,by rwa[←o3 a x y c]⟩
 |call o s t u Y O W T E M h=>
  obtain rfl:L=o:=aA (l.symm.trans O);rw[vk L a G.dst x X]at W;rw[CN T X]at M;exact .call L s t u Y O W T E M λy B v=>⟨d _,by rw[←o3 a x y c];exact h y B v⟩
def A9.first(u:∀w d,I w->I (w.at d))(z:∀a w d,Q .normal a w->Q .normal a (w.at d)){G}(V:g[i]?=ni G)(m:∀(j:Nat) o cs c,g[j]?=ni o->o.op≠.select cs c):∀r(b:Array Bool)a(w:qg),
   (∀j L,g[j]?=ni L->j≠i->b.getD j tu=o9->(∀e∈L.after,Region.binds M e=tu->e.on≠i)->G.apart g L=tu) ->
   i∈Region.ready M g b->YV P J g I G x a->I w->A9 P k J N M g Q I r (b.setIfInBounds i tu) (a.put G.dst x) w->A9 P k J N M g Q I (r+1) b a w:=by
 have p:∀r b,∀a w d,(I w/\A9 P k J N M g Q I r b a w)->(I (w.at d)/\A9 P k J N M g Q I r b a (w.at d)):=λr b a w d h=>⟨u _ d h.1,A9.at u z r b a w d h.2⟩;intro r
 induction r with
 |zero=>
  intro b a w _ Y U s H;refine⟨λh=>Ai,λj l=>?_⟩;by_cases R:j=i
  ·subst R;exact U.opV u (p _ _) V s ⟨s,H⟩
  ·have:=ready_mono l R;rw[H.1]at this;cases this
 |succ r A=>
  intro b a w n Y U s H;refine⟨λh=>(by rw[h]at Y;cases Y),λj l=>?_⟩;by_cases R:j=i
  ·subst R;exact U.opV u (p _ _) V s ⟨s,H⟩
  ·have C:=H.2 j (ready_mono l R);obtain⟨q,L,f,K⟩:=mem_ready.1 l;have Z:∀e∈L.after,Region.binds M e=tu->e.on≠i:=λe E D O=>by
    have C:=K e E D;have F:=(mem_ready.1 Y).1;rw[O]at C;rcases Nat.lt_or_ge i b.size with v|v
    ·simp[v]at F C;rw[F]at C;cases C
    ·simp[cS v]at C
   refine(DO.putIf f (n j L f R q Z) (λcs c=>m i G cs c V) (λcs c=>m j L cs c f) U C).mono λS W T=>⟨T.2.1,A (b.setIfInBounds j tu) S W (λt B X a1 a6 a7=>n t B X a1 ?_ a7) (ready_mono Y (dN R)) T.1 T.2.1 ?_⟩
   ·by_cases y:j=t
    ·subst y;exact q
    ·rwa[getD_set_ne tu y]at a6
   ·rw[Array.setIfInBounds_comm _ _ R];exact T.2.2
def A9.take(o:∀e d,I e->I (e.at d))(f:∀a e d,Q .normal a e->Q .normal a (e.at d)){i G x c}(V:g[i]?=ni G)(s:Region.noSelect g=tu)(h:Region.free M g c i=tu)(Y:(Region.ready M g c).contains i=tu)(U:YV P J g I G x a)(H:I e)(j:A9 P k J N M g Q I b (c.setIfInBounds i tu) (a.put G.dst x) e):=
 A9.first o f V (Region.noSelect_spec s) b c a e (Region.free_spec V h) (by simpa using Y) U H j
def A9.only{i c b}(Y:Region.ready M g b = [i])(h:DO P k J N g i (λd B=>I B/\A9 P k J N M g Q I c (b.setIfInBounds i tu) d B) a e):A9 P k J N M g Q I (c+1) b a e:=
 ⟨λF=>Ai,λj l=>Ai⟩
def A9.all{b}(Y:Region.ready M g b = [])(h:Q .normal a e):∀c,A9 P k J N M g Q I c b a e
 |0=>⟨Y,h⟩
 |_+1=>⟨λ_=>h,λi V=>Ai⟩
end
def U2{f g R:a->a}{c:List a}(M:c.map f=c)(h:∀y∈c,f y=y->g y=R y):c.map g=c.map R:=by
 refine dH λy U=>h y U ?_;obtain⟨i,V,rfl⟩:=eO.1 U
 grind
def Lm(h:n.Ag m q){c:iB}(M:c.map (A1 n)=c):=Tr M λy _ e=>Ja h y e
def Ah8(h:n.Ag m q){t}(R:Wz n t=t):Wz m t=Wz q t:=by
 cases t with
 |fn f c=>simp only[Wz,Target.fn.injEq]at R⊢;exact⟨VM h R.1,Lm h R.2⟩
 |collected r=>simp only[Wz,Target.collected.injEq]at R⊢;exact h r R
 |_=>rfl
def Yz(h:n.Ag m q){d}(y:O6 n d=d):O6 m d=O6 q d:=by
 have ⟨t,c⟩:=d;simp only[O6,Deferred.mk.injEq]at y⊢;exact⟨Ah8 h y.1,Lm h y.2⟩
def Ah4(h:n.Ag m q){d}(y:Iz n d=d):Iz m d=Iz q d:=by
 have ⟨k,v,b⟩:=d;simp only[Iz,MapEntry.mk.injEq,and_true]at y⊢;exact⟨Ja h _ y.1,Ja h _ y.2⟩
def Ah7(h:n.Ag m q){o}(O:Dt n o=o):Dt m o=Dt q o:=by
 cases o with
 |cells c e p=>simp only[Dt,yx,and_true]at O⊢;exact Lm h O
 |pending c e=>simp only[Dt,Obj.pending.injEq,and_true]at O⊢;exact Lm h O
 |view a t=>simp only[Dt,Obj.view.injEq,and_true]at O⊢;exact JL h O
 |number a d=>simp only[Dt,Obj.number.injEq,and_true]at O⊢;exact JL h O
 |map X C=>simp only[Dt,Obj.map.injEq,and_true]at O⊢;exact Tr O λy _ e=>Ah4 h e
 |chan I f x s r t=>simp only[Dt,Obj.chan.injEq,and_true,true_and]at O⊢;exact Lm h O
 |mapIter b u se v=>
  cases b with
  |none=>rfl
  |some b=>simp only[Dt,aI,Obj.mapIter.injEq,aW,and_true]at O⊢;exact h b O
 |loop l=>
  have ⟨g,i,S,j,Y,k,M,w⟩:=l;simp only[Dt,Obj.loop.injEq,Loop.mk.injEq, true_and]at O⊢;exact⟨Lm h O.1,h _ O.2⟩
 |deferred cs=>
  cases cs with
  |none=>rfl
  |some l=>simp only[Dt,aI,Obj.deferred.injEq,aW]at O⊢;exact U2 O λy _ e=>Yz h e
 |finalizers L r=>
  simp only[Dt,Obj.finalizers.injEq,and_true]at O⊢;refine Tr O λy _ e=>?_;have ⟨a,d⟩:=y;simp only[cW]at e⊢;exact⟨h a e.1,Yz h e.2⟩
 |_=>rfl
def Ah5(h:n.Ag m q){x}(Z:Dg n x=x):Dg m x=Dg q x:=by
 cases x with
 |inRangeFunc l=>simp only[Dg,Item.inRangeFunc.injEq]at Z⊢;exact h l Z
 |endRangeFunc l=>simp only[Dg,Item.endRangeFunc.injEq]at Z⊢;exact h l Z
 |call d w r s=>simp only[Dg,Item.call.injEq,true_and]at Z⊢;exact⟨Yz h Z.1,Lm h Z.2⟩
 |extern r a=>simp only[Dg,Item.extern.injEq,true_and]at Z⊢;exact Lm h Z
 |_=>rfl
def NW(h:n.Ag m q)(I:Bm n X=X):Bm m X=Bm q X:=by
 obtain⟨u,b,d,c,a,kind,Y⟩:=X;simp only[Bm,Frame.mk.injEq,true_and]at I⊢;refine⟨Lm h I.1,U2 I.2.1 λy _ e=>Ah5 h e,U2 I.2.2.1 λy _ e=>Yz h e,?_,?_⟩
 ·cases a with
  |panicking f=>
   simp only[J5,FrameMode.panicking.injEq]at I⊢;refine U2 I.2.2.2.1 λy _ e=>?_;obtain⟨v,r,g⟩:=y;simp only[PanicEntry.mk.injEq,and_true]at e⊢;exact Ja h v e
  |_=>rfl
 ·cases Y with
  |none=>rfl
  |some l=>simp only[aI,aW]at I⊢;exact h l I.2.2.2.2
def Vh(h:n.Ag m q){g}(G:Bn n g=g):Bn m g=Bn q g:=by
 have ⟨a,b,c,d,e⟩:=g;simp only[Bn,z8,and_true]at G⊢;exact⟨NW h G.1,U2 G.2 λy _ e=>NW h e⟩
def LikeO.ag{J o I}(h:n.Ag m q)(s:E n J i o o)(K:E m J i o I):E q J i o I:=by
 rcases K with rfl|⟨c,B,e,d,rfl,rfl,N,M⟩|K|K
 ·rcases s with e|⟨c,B,e,d,rfl,L,N,M⟩|⟨l,z,_⟩|⟨B,e,d,rfl,L⟩
  ·exact .inl (Ah7 h e.symm)
  ·cases L;refine .inr (.inl ⟨c,_,e,d,iP,iP,Ad,λj l=>?_⟩);rw[aN];have:=M j l;cases U:c[j]? with
   |none=>rfl
   |some x=>
    rw[U]at this;exact aK ni (Ja h x (aA this).symm)
  ·exact .inr (.inr (.inl ⟨⟨l.1,Od _ _⟩,z,Hh z⟩))
  ·exact .inr (.inr (.inr ⟨_,_,_,iP,iP⟩))
 ·refine .inr (.inl ⟨c,B,e,d,iP,iP,N,λj l=>?_⟩);rw[M j l];cases U:c[j]? with
  |none=>rfl
  |some x=>
   apply aK ni;rcases s with S|⟨Q,f,S,R,L,Y,_,g⟩|⟨_,z,_⟩|⟨f,S,R,L,Y⟩
   ·simp only[Dt,yx,and_true]at S;have:=aK (λa:Array w8=>a[j]?) S;simp only[aN,U]at this;exact Ja h x (aA this).symm
   ·cases L;cases Y;have:=g j l;rw[U]at this;exact Ja h x (aA this).symm
   ·exact absurd iP (z _ _ _)
   ·cases L;simp at U
 ·exact .inr (.inr (.inl K))
 ·exact .inr (.inr (.inr K))
def LikeO.self{J o I}(h:E n J i o I)(C:E .one J i o I):E n J i o o:=by
 by_cases z:Ci o
 ·rcases C with rfl|⟨c,B,e,b,rfl,_⟩|⟨l,_⟩|⟨B,e,b,rfl,_⟩
  ·rwa[AV]at h
  ·exact absurd iP (z _ _ _)
  ·exact .inr (.inr (.inl ⟨⟨l.1,iP⟩,z,z⟩))
  ·exact absurd iP (z _ _ _)
 ·cases o with
  |cells c e b=>
   rcases C with rfl|⟨Q,B,S,R,L,rfl,N,M⟩|⟨_,Z,_⟩|⟨B,S,R,L,rfl⟩
   ·rwa[AV]at h
   ·cases L;rcases h with Y|⟨f,U,Y,d,s,t,T,x⟩|⟨_,Z,_⟩|⟨f,Y,d,s,t⟩
    ·simp only[Dt,yx,and_true]at Y;refine .inr (.inl ⟨c,c,e,b,iP,iP,iP,λj l=>?_⟩);have:=M j l;rw[Y,aN]at this;rw[this];cases c[j]?<;>simp[Ez]
    ·cases s;cases t;refine .inr (.inl ⟨c,c,e,b,iP,iP,iP,λj l=>?_⟩);have a:=x j l;rw[(M j l)]at a;rw[←a];cases c[j]?<;>simp[Ez]
    ·exact absurd iP (Z _ _ _)
    ·cases s;exact .inr (.inr (.inr ⟨_,_,_,iP,iP⟩))
   ·exact absurd iP (Z _ _ _)
   ·cases L;exact .inr (.inr (.inr ⟨_,_,_,iP,iP⟩))
  |_=>exact absurd (λ_ _ _ e=>BB) z
structure Wf(J g)(v:qg):Prop where
 mem:∀i(o:Obj),v.1[i]?=ni o->LikeO (.up v.1.size) J i o o
 gor:Bn (.up v.1.size) g=g
section
variable {P:vg} {k:Bool} {J:hZ}
def Wf.at(a:Wf J h v)(d):Wf J h (v.at d):=⟨a.mem,a.2⟩
def VY{m}(h:M<=m):(Z.up M).Ag (.up M) (.up m):=λi V=>by rw[V,Ix (by have:=Afw.1 V;omega)]
def Wf.sm(a:Wf J h v){M}(b:iS v.1<=M):Sm (.up M) M J v v/\Bn (.up M) h=h:=by
 refine⟨⟨λj l=>Ix l,λi V=>by rwa[Ix Aa],λi V=>?_,λi o O=>⟨o,?_,E.ag (VY b) (a.mem i o O) (a.mem i o O)⟩,iP,iP,iP,iP⟩,?_⟩
 ·by_cases b:i<M
  ·rwa[Ix b]
  ·rw[Apk Aa];omega
 ·rwa[Ix Ai]
 ·rw[←Vh (VY b) a.2,a.2]
def Amb(v t):Sm .one t J v v:=⟨λj _=>rfl,λi V=>V,λi V=>V,λi o O=>⟨o,O,.inl (AV o).symm⟩,iP,iP,iP,iP⟩
def Wf.step(p:P.globals.size<=iS v.1)(c:Wf J h v)(s:Hk P k J h v R U):Wf J R U:=by
 have ⟨X,f,_⟩:=s.frame;have ⟨l,d⟩:=c.sm f.size;have ⟨H,S,D,m,e,Q,_⟩:=s.all _ U.1.size v (Ren.up_fixG (aF p f.size)) (aB _) l;have ⟨E,L,K,a,g,t,_⟩:=s.all .one U.1.size v (Ren.one_fix _) (aB _) (Amb v _);rw[d]at m;rw[NX,NX,m]at a;injection a with N j q;subst j;refine⟨λi o O=>?_,N⟩;have ⟨n,C,B⟩:=e.4 i o O;have ⟨I,r,Z⟩:=g.4 i o O;rw[Ix ((aH.1 O).1)]at C;have b:H.1[i]?=ni I:=r;rw[C]at b;cases b;exact LikeO.self B Z
end
section
variable {P:vg} {k:Bool} {J:hZ} {b c:Type}
def EV.sem{s}{f:Z->b->c}{t:Z->Sem c}(Y:h.status=.running)(g:∀n:Z,n.Fix P.globals.size->Rf P n (f n) s (t n))(H:∀d,∃a U R,s.run P (v.at d)=.ok a U/\(∀e∈s.events P (v.at d) #[],Fb J e)/\R.status=.running/\(∀n(w B:qg),n.Fix P.globals.size->(t n).run P w=.ok (f n a) B->∃G,ig P k (Bn n h) w=.go (Bn n R) B G/\∀e∈G,e∈(t n).events P w #[])/\EV P k J N R U):EV P k J N h v:=by
 refine EV.step Y λo d=>?_;have ⟨a,U,R,C,i,T,E,z⟩:=H d;have ⟨l,F⟩:=Sr;have j:Plain (v.at d):=o;have ⟨p,q,r⟩:=(g l (F _)).mono _ a U j C;refine⟨R,U,⟨T,p,⟨_,q,λe m=>⟨r e m,i e m⟩⟩,λn u w x y A=>?_⟩,z⟩;have ⟨B,M,I,D,K⟩:=(g n x).sim J u _ w A j i a U C y
 grind
def Lc(l:Nat)(f:pz)(tmps:iB)(todo:List wx):zq:={ fn:=f,tmps,todo,defers:=[],mode:=.run,kind:=.normal,roundOf:=ni l }
def Vj(l f a b):Bm n (Lc l f a b)=Lc (sh n l) f (a.map (A1 n)) (b.map (Dg n)):=iP
variable {l:Nat} {tmps:iB} {j:List wx}
def EV.ctlR{a q}(D:EV P k J N (G (Lc l f a q) cs) v)(h:∀n(cs:List zq)w,n.Fix P.globals.size->ig P k (G (Lc (sh n l) f (tmps.map (A1 n)) (j.map (Dg n))) cs) w=.go (G (Lc (sh n l) f (a.map (A1 n)) (q.map (Dg n))) cs) w):EV P k J N (G (Lc l f tmps j) cs) v:=
 EV.ctl D iP iP λn w p=>h n _ w p
def BE{a g}(D:EV P k J N (G (Lc l f tmps (.inRegion g (jk g.size)::j)) cs) v):EV P k J N (G (Lc l f tmps (.code (.region a g o9)::j)) cs) v:=EV.ctlR D λn cs e _=>by simp[G,ig,zk,Lc,Dg]
def Qx{g}(D:EV P k J N (G (Lc l f tmps j) cs) v):EV P k J N (G (Lc l f tmps (.inRegion g []::j)) cs) v:=EV.ctlR D λn cs e _=>by simp[G,ig,zk,Lc,Dg]
def ZT{a c}(D:EV P k J N (G (Lc l f tmps (.code c::.inBlock a::j)) cs) v):EV P k J N (G (Lc l f tmps (.code (.block a c)::j)) cs) v:=EV.ctlR D λn cs e _=>by simp[G,ig,zk,Lc,Dg]
def OI{a}(D:EV P k J N (G (Lc l f tmps j) cs) v):EV P k J N (G (Lc l f tmps (.inBlock a::j)) cs) v:=EV.ctlR D λn cs e _=>by simp[G,ig,zk,Lc,Dg]
def rev(tmps:iB):Act:={ tmps,defers:=[] }
def Aex(b):(Lc l f tmps b).eval=(rev tmps).eval:=by funext x;cases x<;>rfl
def EV.ropR{g}{b:iG}(O:g[i]?=ni o)(W:Region.wanted o (gu g tmps)=tu)(y:∀h,o.op≠.defer h)(H:∀d,∃x U,GL P J (Fv (rev tmps) o) (v.at d) x U/\EV P k J N (G (Lc l f (Hm o.dst x tmps) (.inRegion g b::j)) cs) U):EV P k J N (G (Lc l f tmps (.inRegion g (i::b)::j)) cs) v:=by
 have m:∀l tmps j cs e,Region.wanted o (gu g tmps)=tu->ig P k (G (Lc l f tmps (.inRegion g (i::b)::j)) cs) e=stepG.apply P tu (Lc l f tmps (.inRegion g (i::b)::j)) cs su (execOp (rev tmps).eval o) e:=λl tmps j cs e W=>by
  have a:=Aex (l:=l) (f:=f) (tmps:=tmps) (.inRegion g (i::b)::j);simp only[Lc]at a;cases T:o.op<;>first|exact absurd T (y _)|simp[G,ig,zk,stepG.oper,Frame.oper?,Lc,O,W,a,T]
 have I:∀l tmps j x,(Lc l f tmps (.inRegion g (i::b)::j)).finish x=Lc l f (Hm o.dst x tmps) (.inRegion g b::j):=λl tmps j x=>by
  unfold sr Lc Hm
  grind
 have Z:∀n x,Hm o.dst (A1 n x) (tmps.map (A1 n))=(Hm o.dst x tmps).map (A1 n):=λn x=>by
  cases o.dst with
  |none=>rfl
  |some d=>exact Hx _ _ _
 refine EV.step iP λz d=>?_;obtain⟨x,U,Y,F⟩:=H d;have c:Plain (v.at d):=z;refine⟨G (Lc l f (Hm o.dst x tmps) (.inRegion g b::j)) cs,U,⟨iP,Y.plain c,Y.frame c,λn t u p R s=>?_⟩,F⟩;obtain⟨q,S,L,C,r,w,A,B,D⟩:=Y.all c n t u p R s;refine⟨q,seen P f ((Fv (rev tmps) o n).events P u #[]),L,?_,w,A,B,λE a=>D E (mem_seen a)⟩;have K:Region.wanted o (gu g (tmps.map (A1 n)))=tu:=by rwa[E1]
 have Q:Fv (rev tmps) o n=execOp (rev (tmps.map (A1 n))).eval o:=iP;rw[Q]at C⊢;rw[Ep,Vj,Ep,Vj,←Z];rw[show lp (Dg n) (.inRegion g (i::b)::j)=.inRegion g (i::b)::j.map (Dg n) from iP,m _ _ _ _ _ K];have M:((Lc (sh n l) f (tmps.map (A1 n)) (.inRegion g (i::b)::j.map (Dg n))).kind==pc)=o9:=iP;rcases r with rfl|⟨rfl,rfl⟩
 ·simp only[stepG.apply,s9,C,bP,M,I];simp[th,G,Lc,Dg]
 ·simp only[stepG.apply,s9,C,bP,M,I,Eu];simp[th,G,Lc,Dg]
def Fj(v:y)(l:Nat)(r:Loop):Prop:=v.1[l]?=ni (.loop r)
def E5(v:y)(l:Nat)(r:Loop):y:={ v with heap:=v.1.setIfInBounds l (.loop r) }
def JM(v l r):(E5 v l r).1.size=iS v.1:=by simp[E5]
def Ah6(n:Z)(r:Loop):Loop:={ r with tmps:=r.tmps.map (A1 n),defers:=sh n r.defers }
def IQ(r):Ci (.loop r):=λ_ _ _ e=>BB
def Jz{b H}{f:a->b}{k:Loop->Sem a}{q:Loop->Sem b}(l)(E:∀r,Dc (λi=>H i∨i=l) P n f (k r) (q (Ah6 n r))):Dc H P n f (zx l >>= k) (zx (sh n l) >>= q):=by
 unfold zx;refine F.getObjThen l (λo _=>?_) (λo I O _=>by obtain⟨_,_,_,_,_,_,rfl⟩:=He O;exact F.never (D8 (Cz iP trivial)));cases o with
 |loop r=>exact E r
 |_=>exact F.never (D8 (Cz iP trivial))
def DC(l):F P n (Ku n) (do Instr.beginRound l;nh Next.skip) (do Instr.beginRound (sh n l);nh Next.skip):=by
 refine F.bind (f:=id) ?_ λ_=>F.pure iP;refine Jz l λr=>F.bind (F.setObj (o:=.loop { r with state:=.busy }) trivial (IQ _) rfl l (.inr rfl)) λ_=>?_
 show Dc _ P n id _ (match r.state with|.ready=>_|.done=>_|.busy=>_|.exhausted=>_);cases r.state<;>first|exact F.pure iP|exact F.rt
def OC(l j):F P n (A1 n) (Instr.endRound l j) (Instr.endRound (sh n l) j):=by
 exact Jz l λr=>F.bind (F.setObj (o:=.loop { r with state:=if j.isNone then .ready else .done,pending:=j }) trivial (IQ _) rfl l (.inr rfl)) λ_=>F.pure Ad
def SP(l):F P n id (Instr.endLoop l) (Instr.endLoop (sh n l)):=by
 refine Jz l λr=>?_
 show Dc _ P n id _ (if r.state==.busy then _ else _);by_cases h:(r.state==.busy)=tu
 ·simp only[h,bP];exact F.never (D8 (Jx _))
 ·simp only[h,bQ,aR];exact F.bind (F.setObj (o:=.loop { r with state:=.exhausted }) trivial (IQ _) rfl l (.inr rfl)) λ_=>F.pure rfl
def NY(n:Z):vi->vi
 |.round l f tmps a b=>.round (sh n l) f (tmps.map (A1 n)) a b
 |x=>x
def XS(b:List (Tmp×w8))(a:iB):(b.map λx=>(x.1,A1 n x.2)).foldl (λa (x:Tmp×w8)=>a.setIfInBounds x.1 x.2) (a.map (A1 n))=(b.foldl (λa (x:Tmp×w8)=>a.setIfInBounds x.1 x.2) a).map (A1 n):=by
 induction b generalizing a with
 |nil=>rfl
 |cons x b O=>simp only[bA,fP,Hx,O]
def Ai1(a:Array Tmp)(V:iB):(a.zip (V.map (A1 n)))=(a.zip V).map λx=>(x.1,A1 n x.2):=by
 apply Array.ext';simp[Array.toList_zip,List.zip_map_right]
def Aew(l)(V:iB):F P n (NY n) (Instr.yield l V) (Instr.yield (sh n l) (V.map (A1 n))):=by
 refine Jz l λr=>?_;have C:(V.map (A1 n)).size=V.size:=Ad;rw[C]
 show Dc _ P n _ _ (if V.size≠r.params.size then _ else _);by_cases h:V.size≠r.params.size
 ·rw[aJ h,aJ h];exact F.never (D8 (Cz iP trivial))
 ·rw[aL h,aL h];apply F.pure
  congr 1
  rw[Ai1,←fV,←fV,bT];exact XS _ _
def Yf(b):F P n (lp (O6 n)) (fu b) (fu (sh n b)):=by
 refine F.getObjThen b (λo _=>?_) (λo I O _=>by obtain⟨_,_,_,_,_,_,rfl⟩:=He O;exact F.stuck);cases o with
 |deferred R=>
  cases R with
  |none=>exact F.stuck
  |some R=>exact F.bind (F.setObj (o:=.deferred su) trivial (λ_ _ _ e=>BB) iP b (.inr iP)) λ_=>F.pure iP
 |_=>exact F.stuck
def FE(n:Z)(x:Nat×List Deferred):Nat×List Deferred:=(sh n x.1,x.2.map (O6 n))
def JG(fn)(tmps:iB)(a x y):F P n (FE n) (rq fn tmps a x y su) (rq fn (tmps.map (A1 n)) a x y su):=by
 unfold rq;refine F.bind (F.newObj (o:=.deferred (ni [])) trivial) λr=>?_;refine F.bind (f:=FE n) (F.pure (by simp[FE,O6,Wz])) λq=>?_;have ⟨d,N⟩:=q;exact F.bind (F.newObj (o:=.loop { state:=.ready,pending:=su,fn,tmps,params:=a,assign:=x,body:=y,defers:=d }) trivial) λr=>F.pure iP
end
def Ren.grow(n k W)(h:∀i,i<k->sh n i<W):Z:=⟨λi=>if i<k then n.f i else W+(i - k),λ{i j} e=>by
 split at e<;>split at e
 ·exact n.inj e
 ·rename_i h1 h2;have:=h i h1;unfold sh at this;omega
 ·rename_i h1 h2;have:=h j h2;unfold sh at this;omega
 ·omega⟩
def Yt{k W}{h:∀i,i<k->sh n i<W}(V:i<k):sh (n.grow k W h) i=sh n i:=aJ V
def UQ{k W}{h:∀i,i<k->sh n i<W}(V:k<=i):sh (n.grow k W h) i=W+(i - k):=aL Aa
section
variable {J:hZ} {d:y} {X:Array yn}
structure Apart(n)(J:hZ)(v:qg)(X:Array yn):Prop where
 cell:∀e∈X,e.write=tu->∀i j,e.loc=.cell ⟨sh n i,j,su⟩->(∃x,v.cell? (iK i j)=ni x)->J (.cell (iK i j))
 obj:∀e∈X,e.write=tu->∀i o,e.loc=.obj (sh n i)->v.1[i]?=ni o->Ci o->J (.obj i)
def Cg{r}{c:iB}{e a}(h:w.1[r]?=ni (.cells c e a))(j):w.cell? (iK r j)=c[j]?:=by simp[sw,h]
def LikeO.other(k:Apart n J v X)(g:Da e d X){o s}(q:v.1[i]?=ni o)(W:e.1[sh n i]?=ni s)(y:E n J i o s):∃I,d.1[sh n i]?=ni I/\E n J i o I:=by
 have row:∀c B(a:mi)b,o=.cells c a b->s=.cells B a b->B.size=c.size->(∀j,¬J (.cell (iK i j))->B[j]?=(c[j]?).map (A1 n))->∃I,d.1[sh n i]?=ni I/\E n J i o I:=λc B a b t m N M=>by
  subst t m;obtain⟨R,f,h⟩:=g.row _ _ _ _ W;refine⟨_,f,.inr (.inl ⟨c,R,a,b,iP,iP,h.trans N,λj l=>?_⟩)⟩;rw[←M j l,←Cg f j,←Cg W j];by_cases Y:j<c.size
  ·refine g.cell ⟨sh n i,j,su⟩ ((aH.1 W).1) λH r K D=>l (k.cell H r K i j D ⟨c[j],?_⟩);rw[Cg q j];exact aO Y
  ·rw[Cg f j,Cg W j,cS Aa,cS Aa]
 rcases y with rfl|⟨c,B,a,b,rfl,rfl,N,M⟩|⟨l,C,f⟩|⟨B,a,b,rfl,rfl⟩
 ·by_cases z:Ci o
  ·by_cases Z:∀H∈X,H.write=tu->H.loc≠.obj (sh n i)
   ·exact⟨_,g.obj _ _ W (Hh z) Z,.inl iP⟩
   ·obtain⟨I,f,u,p⟩:=g.5 _ _ W (Hh z);refine⟨I,f,.inr (.inr (.inl ⟨⟨?_,p.trans (Od n o)⟩,z,u⟩))⟩;refine cL λx=>Z λH r K D=>x (k.obj H r K i o D q z)
  ·cases o with
   |cells c a b=>exact row c (c.map (A1 n)) a b iP iP Ad λj _=>aN ..
   |_=>exact absurd (λ_ _ _ a=>by cases a) z
 ·exact row c B a b iP iP N M
 ·obtain⟨I,T,w,A⟩:=g.5 _ _ W f;exact⟨I,T,.inr (.inr (.inl ⟨⟨l.1,A.trans l.2⟩,C,w⟩))⟩
 ·obtain⟨R,f,_⟩:=g.row _ _ _ _ W;exact⟨_,f,.inr (.inr (.inr ⟨_,_,_,iP,iP⟩))⟩
def Sm.lt'(s:Sm n t J v e)(f:Da e d X):∀i,i<iS v.1->sh n i<iS d.1:=λi V=>aC (s.lt i V) f.size
def Sm.other(s:Sm n t J v e)(W:Wf J h v)(a:Apart n J v X)(f:Da e d X)(S):Sm (n.grow v.1.size d.1.size (s.lt' f)) S J (v.at d.drawn) d/\Bn (n.grow v.1.size d.1.size (s.lt' f)) h=Bn n h:=by
 have b:(Z.up v.1.size).Ag n (n.grow v.1.size d.1.size (s.lt' f)):=UD λi V=>(Yt V).symm;refine⟨⟨λj _=>?_,λi V=>?_,λi V=>?_,λi o O=>?_,(f.tape.trans s.tape),iP,(f.os.trans s.os),(f.output.trans s.output)⟩,(Vh b W.2).symm⟩
 ·show sh _ (iS v.1+j)=_;rw[UQ Aa];omega
 ·have p:i<iS v.1:=V;rw[Yt p];exact s.lt' f i p
 ·have p:iS v.1<=i:=V;rw[UQ p];omega
 ·have G:v.1[i]?=ni o:=O;obtain⟨g,C,c⟩:=s.4 i o G;obtain⟨I,T,q⟩:=c.other a f G C;rw[Yt (aH.1 G).1];exact⟨I,T,E.ag b (W.mem i o G) q⟩

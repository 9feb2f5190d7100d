import Derived.Test.YtjoblhlkfmeckaaGreatDoorQ05
import Derived.Test.YtjoblhlkfmeckaaGreatDoorQ02
set_option linter.unusedVariables false
set_option linter.unusedSimpArgs false
open Go renaming World → qq,Goroutine → gq,Frame → qg,Event → p6,Trace → bd,Value → tj
open Option renaming some → lp
open Bool renaming true → s7,false → vp
open Go.Sem renaming runT_eq → lk
open Go.Goroutine.mk renaming injEq → jf
open Go.Frame renaming enter → bz
open Go.Trace renaming g? → pg
open Or renaming inl → af,inr → o5
theorem N70{p:Prop}(h:p:=by
 have:=aG (fun g:Goroutine=>g.callers.length) e1
 simp [G] at this
 omega):p:=h
theorem Zkf{p:Prop}(h:p:=by
 obtain⟨o,ho⟩:=X5 (c:=c0) (cs:=Hb) hf.defers hm hfn hr
 rw [Co] at ho
 cases ho):p:=h
theorem Re9{p:Prop}(h:p:=by
 rw [e,ho,bA]
 rcases hn i o (e.trans ho) with hk|rfl
 ·rw [Gu hk]
 ·rfl):p:=h
theorem Q86{p:Prop}(h:p:=by
 exact⟨x',es2,g1,Ct.after (v:=L.at d) hx ht rfl g2 h2 hn',Gi hJ g2,fun e he=>Mj hJ (g3 e he)⟩):p:=h
theorem O10{p:Prop}(h:p:=by
 refine .inr (.inr (.inl ⟨hJi,x,x',?_,hw,h1,h2⟩))
 rw [hu,bA]
 cases x <;> first|rfl|cases h1):p:=h
theorem Kx7{p:Prop}(h:p:=by
 have hK:=he e hx
 obtain⟨loc,wr,sy⟩:=e
 cases loc with
 | mark m=>cases m <;> first|exact hK.elim|simp
 | _=>simp):p:=h
theorem Rvv{p:Prop}(h:p:=by
 obtain⟨e,hx,rfl⟩:=Conc.mem_ofEvents Bt
 have hK:=he e hx
 obtain⟨loc,wr,sy⟩:=e
 cases loc with
 | cell a=>cases wr <;> cases sy <;> exact hK.2
 | obj r=>cases wr <;> cases sy <;> exact hK.2
 | mark m=>cases m <;> first|exact hK.elim|(cases wr <;> cases sy <;> trivial)
 | output=>exact hK.elim
 | goroutines=>exact hK.elim):p:=h
namespace Go.Pair
open Go Go.Conc
section
variable {P:Program} {J:Loc->Prop} {Bs:Nat->Prop} {u w v:qq}
structure LH(J:Loc->Prop)(Bs:Nat->Prop):Prop where
 cell:∀a,J (.cell a)->Bs a.block
 obj:∀r,J (.obj r)->Bs r
theorem Ct.sim(hJ:LH J Bs)(h:Ct J u w)(hs:Cq Bs w v):Cq Bs u v:=by
 refine⟨hs.size.trans h.size,fun i=>?_,hs.os.trans h.os,hs.output.trans h.output⟩
 rcases h.like i with e|⟨c,c',t,fz,hu,hw,hz,hj⟩|⟨hJi,o,o',hu,hw,h1,h2⟩|⟨⟨o4,h4,n4⟩,hw4⟩
 ·rw [←e];exact hs.like i
 ·by_cases hb:Bs i
  ·rcases hs.like i with⟨hn,_⟩|⟨_,c2,t2,fz2,hw2,hv⟩|⟨hn,_⟩|⟨_,⟨o,ho,hk⟩,_⟩
   ·exact absurd hb hn
   ·rw [hw] at hw2
    simp at hw2
    obtain⟨rfl,rfl,rfl⟩:=hw2
    exact o5 (af ⟨hb,c,t,fz,hu,hv⟩)
   ·exact absurd hb hn
   ·rw [hw] at ho
    obtain rfl:=aC ho
    cases hk
  ·have:c'=c:=cY fun j=>hj j fun hx=>hb (hJ.cell _ hx)
   subst this
   have e:w.heap[i]? = u.heap[i]?:=by rw [hw,hu]
   rw [←e];exact hs.like i
 ·have hb:=hJ.obj _ hJi
  rcases hs.like i with⟨hn,_⟩|⟨_,c2,t2,fz2,hw2,hv⟩|⟨hn,_⟩|⟨_,⟨x,ho,hk⟩,hv⟩
  ·exact absurd hb hn
  ·rw [hw] at hw2
   obtain rfl:=aC hw2
   cases h2
  ·exact absurd hb hn
  ·exact o5 (o5 (o5 ⟨hb,⟨o,hu,h1⟩,hv⟩))
 ·rcases hs.like i with⟨hn,_,hk⟩|⟨_,c2,t2,fz2,hw2,hv⟩|⟨hn,_,hv⟩|⟨_,⟨x,ho,hk⟩,hv⟩
  ·exact(hk _ hw4).elim
  ·rw [hw4] at hw2;cases hw2
  ·exact o5 (o5 (af ⟨hn,⟨o4,h4,n4⟩,hv⟩))
  ·rw [hw4] at ho;obtain rfl:=aC ho;cases hk
theorem Ct.mort(h:Ct J u w)(hn:NF w):Ct J (Cf u) w:=by
 refine⟨h.size.trans (Cw u).symm,fun i=>?_,h.os,h.output,h.tape,h.drawn⟩
 unfold Alike
 rw [Cr]
 rcases h.like i with e|⟨c,c',t,fz,hu,hw,hz,hj⟩|⟨hJi,x,x',hu,hw,h1,h2⟩|⟨⟨o4,h4,n4⟩,hw⟩
 ·left
  cases ho:u.heap[i]? with
  | none=>rw [e,ho];rfl
  | some o=>
   exact Re9
 ·exact o5 (af ⟨c,c',t,fz,by rw [hu];rfl,hw,hz,hj⟩)
 ·exact O10
 ·left
  rw [hw,h4,bA,It n4]
theorem Ct.after{K K':Nat}{u' w' v':qq}(h:Ct J u w)(hv:v.tape=w.tape)(hd:v.drawn=w.drawn)(hau:After Bs K u v u' v')(haw:After Bs K' w v w' v')(hn:NF w'):Ct J u' w':=by
 refine⟨haw.sim.size.symm.trans hau.sim.size,fun i=>?_,haw.sim.os.symm.trans hau.sim.os,haw.sim.output.symm.trans hau.sim.output,by rw [haw.wt,hau.wt,h.tape],?_⟩
 ·by_cases hb:Bs i
  ·unfold Alike
   rw [hau.keep i hb,haw.keep i hb]
   exact h.like i
  ·rcases haw.sim.like i with⟨_,e,E6⟩|⟨Es,_⟩|⟨_,⟨o,ho,hk⟩,hv'⟩|⟨Es,_⟩
   ·rcases hau.sim.like i with⟨_,e',_⟩|⟨Es,_⟩|⟨_,⟨o,ho,hk⟩,hv'⟩|⟨Es,_⟩
    ·exact af (by rw [←e,←e'])
    ·exact absurd Es hb
    ·exact(E6 _ (e.symm.trans hv')).elim
    ·exact absurd Es hb
   ·exact absurd Es hb
   ·have hd':w'.heap[i]? = lp dead:=by
     rcases hn i o ho with h'|rfl
     ·exact absurd h' hk
     ·exact ho
    rcases hau.sim.like i with⟨_,e',E6⟩|⟨Es,_⟩|⟨_,⟨o',ho',hk'⟩,_⟩|⟨Es,_⟩
    ·exact(E6 _ (e'.symm.trans hv')).elim
    ·exact absurd Es hb
    ·exact o5 (o5 (o5 ⟨⟨o',ho',hk'⟩,hd'⟩))
    ·exact absurd Es hb
   ·exact absurd Es hb
 ·have h1:=hau.vd
  have h2:=haw.vd
  rw [hau.wd,haw.wd,h.drawn]
  omega
theorem NF.after{K:Nat}{w' v':qq}(h:NF w)(ha:After Bs K w v w' v'):NF w':=fun i o ho=>bG fun hn=>hn (h i o (ha.far i o ho fun hk=>hn (af hk)))
theorem Mj(hJ:LH J Bs){B:Nat}{e:p6}(h:Pd Bs B e):RJ J B e:=by
 obtain⟨loc,wr,sy⟩:=e
 cases loc with
 | cell a=>exact⟨fun hx=>h.1 (hJ.cell a hx),h.2⟩
 | obj r=>exact⟨h.1.imp (fun h hx=>h (hJ.obj r hx)) id,h.2⟩
 | mark m=>cases m <;> exact h
 | output=>exact h
 | goroutines=>exact h
theorem Gi{K:Nat}{w' v':qq}(hJ:LH J Bs)(ha:After Bs K w v w' v'):Ht J w w':=
 ⟨ha.grow,fun b hb _=>by unfold World.cell?;rw [ha.keep _ (hJ.cell b hb)],fun r o hr ho _=>by rw [ha.keep r (hJ.obj r hr)];exact ho,fun i _ hi=>ha.keep i (hJ.cell ⟨i,0,none⟩ (hi 0)),ha.wt,ha.same,fun b hb _=>by unfold World.frozen?;rw [ha.keep _ (hJ.cell b hb)],ha.far⟩
theorem Oy{main:Bool}{fr c:qg}{cs:List qg}{d:Option Dying}{x:tj}:doReturn P main fr (c :: cs) d x w=doReturn P s7 fr (c :: cs) d x w:=rfl
theorem AP{main:Bool}{fr c:qg}{cs:List qg}{d:Option Dying}:unwind P main fr (c :: cs) d w=unwind P s7 fr (c :: cs) d w:=by
 unfold unwind
 simp only [Oy (main:=main)]
theorem II{main:Bool}{fr c:qg}{cs:List qg}{d:Option Dying}:stepG.exec P main s7 fr (c :: cs) d w=stepG.exec P s7 s7 fr (c :: cs) d w:=by
 unfold stepG.exec
 simp only [Oy (main:=main)]
theorem U2{main:Bool}{fr c:qg}{cs:List qg}:stepG P main (G fr (c :: cs)) w=stepG P s7 (G fr (c :: cs)) w:=by
 unfold stepG G
 simp only [AP (main:=main),II (main:=main)]
variable {S:Env} {c0:qg} {Hb:List qg} {main:Bool} {StopV:gq->qq->Prop}
theorem Ou.of{d K:Nat}{x:qq}(ht:v.tape=x.tape)(hd:x.drawn=d):Ou x (v.at d) K:=fun j _=>by
 show v.tape (d+j)=x.tape (x.drawn+j)
 rw [ht,hd]
theorem DI{Stop:tj->qq->Prop}(hc0:c0.mode=.run){fr:qg}{up:List qg}{L:qq}(h:Pe P Bs c0 Hb Stop fr up L):∀c,fr.mode=.panicking c->fr.defers = []->(∃f,P.funcs[fr.fn]? = lp f)->(∀x∈up,x.defers = []/\∃f,P.funcs[x.fn]? = lp f)->False:=by
 have step:∀(fr x:qg) (cs:List qg) (w:qq) (c:List PanicEntry),fr.mode=.panicking c->fr.defers = []->(∃f,P.funcs[fr.fn]? = lp f)->stepG P s7 (G fr (x :: cs)) w=.go (G (x.raise c) cs) w:=by
  intro fr x cs w c hm hd ⟨f,hf⟩
  rw [Eg (by rw [hm];simp)]
  simp only [unwind,hd,Frame.catches,hf,hm]
  rfl
 induction h with
 | @stop fr w h=>
  intro c hm hd hf hu
  obtain⟨val,w',es,hs,_⟩:=h 0
  rw [step fr c0 Hb _ c hm hd hf] at hs
  injection hs with e1 e2 e3
  have:=aG (fun g:gq=>g.frame.mode) e1
  obtain⟨c',e⟩:=raise_mode c0 c
  simp only [G,e] at this
  have h2:(c0.finish val).mode=c0.mode:=by unfold Frame.finish;split <;> rfl
  rw [h2,hc0] at this
  cases this
 | @step fr up w fr' up' w' es h hn ih=>
  intro c hm hd hf hu
  obtain⟨hs,_⟩:=h 0
  cases up with
  | nil=>
   rw [aP,step fr c0 Hb _ c hm hd hf] at hs
   injection hs with e1 e2 e3
   exact N70
  | cons x up=>
   rw [bK,step fr x _ _ c hm hd hf] at hs
   injection hs with e1 e2 e3
   simp only [G,jf] at e1
   obtain⟨e4,e5,_⟩:=e1
   have e6:=dP e5
   obtain⟨c',e⟩:=raise_mode x c
   rw [e] at e4
   refine ih 0 c' (by rw [←e4]) (by rw [←e4];exact(hu x Ae).1) (by rw [←e4];exact(hu x Ae).2) (fun y hy=>hu y (by rw [←e6] at hy;simp [hy]))
theorem RP{fr fr':qg}{cs cs':List qg}(h:G fr cs=G fr' cs'):fr=fr'/\cs=cs':=by
 simp only [G,jf] at h
 exact⟨h.1,h.2.1⟩
theorem DY{fr c:qg}{cs:List qg}{fn:Func}{y:tj}{w w':qq}(hd:fr.defers = [])(hk:fr.kind=.normal)(hm:fr.mode=.returning)(hf:P.funcs[fr.fn]? = lp fn){es:Array p6}(hr:(results fn fr.tmps).runT P w #[]=(.ok y w',es)) :
  stepG P s7 (G fr (c :: cs)) w=.go (G (c.finish y) cs) w' (seen P fr.fn es):=by
 rw [Eg (by rw [hm];simp)]
 simp only [unwind,hd,hm,hf,hr,doReturn,hk]
 simp [GStep.after,G]
theorem X5{fr c:qg}{cs:List qg}{fn:Func}{h:Halt}{w w':qq}(hd:fr.defers = [])(hm:fr.mode=.returning)(hf:P.funcs[fr.fn]? = lp fn)(hr:(results fn fr.tmps).run P w=.halt h w') :
  ∃o,(stepG P s7 (G fr (c :: cs)) w).bare=.ended o w':=by
 rw [Eg (by rw [hm];simp)]
 simp only [unwind,hd,hm,hf,lk,hr]
 cases h <;> exact⟨_,rfl⟩
theorem NR(hS:BL P S)(hJ:LH J Bs)(hc0:c0.mode=.run){u0:qq}{Stop:tj->qq->Prop}{fr:qg}{up:List qg}{L:qq}(h:Pe P (fun _=>False) c0 Hb Stop fr up L) :
  Km P S fr->R8 P S up->∀u,Cq Bs u L->NJ J u->L.tape=u.tape->Kept Bs u0 u->(∀val L' u',Stop val L'->Cq Bs u' L'->L'.tape=u'.tape->Kept Bs u0 u'->EV P main J StopV (G (c0.finish val) Hb) u')->Fw P main J StopV (G fr (up++c0 :: Hb)) u:=by
 have Cu:∀(up:List qg),∃x cs,up++c0 :: Hb=x :: cs:=fun up=>by cases up <;> exact⟨_,_,rfl⟩
 have hmain:∀(fr:qg) (up:List qg) (w:qq),stepG P main (G fr (up++c0 :: Hb)) w=stepG P s7 (G fr (up++c0 :: Hb)) w:=fun fr up w=>by
  obtain⟨x,cs,e⟩:=Cu up
  rw [e];exact U2
 induction h with
 | @stop fr L h=>
  intro hf hu u hs hn ht hk Dk
  refine Fw.step hn rfl fun d=>?_
  obtain⟨val,L',es,Co,Di,hsm,Hf,E5⟩:=h d
  have hsim:Cq Bs (u.at d) (L.at d):=hs.at d d
  have hm:fr.mode=.returning:=by
   rcases hf.mode with hm|hm
   ·exfalso
    obtain⟨K,hK⟩:=AH (Bs:=Bs) hS hf hm (up:=[]) (fun _ h=>by cases h) (u.at d)
    cases hK (c0 :: Hb) (c0 :: Hb) (L.at d) hsim (Ou.of ht rfl) with
    | bad o v' hv=>rw [aP,Co] at hv;cases hv
    | panic ch v' hv=>
     rw [aP,Co] at hv
     injection hv with e1 e2
     have:=aG List.length (RP e1).2
     simp at this
    | go fr' up' w' v' Fi hw hv hf' hu' ha hes'=>
     rw [aP,Co] at hv
     injection hv with e1 e2
     have:=aG List.length (RP e1).2
     simp at this
     omega
   ·exact hm
  obtain⟨fn,hfn⟩:=hf.fn
  have key:∀x,Cq Bs x (L.at d)->x.tape=u.tape->x.drawn=d->∃x' Fi,stepG P main (G fr (c0 :: Hb)) x=.go (G (c0.finish val) Hb) x' Fi/\(∃K,After Bs K x (L.at d) x' L')/\∀e∈Fi,Pd Bs x'.heap.size e:=by
   intro x hsx htx hdx
   cases Kf (results fn fr.tmps) (fun _=>False) x (L.at d) #[] (T.results fn fr.tmps _) (fun _ h=>h.elim) hsx (Ou.of (ht.trans htx.symm) hdx) with
   | bad hh v1 hr hb=>
    exfalso
    exact Zkf
   | panic y x1 v1 es1 hw hv ha hes1=>
    exfalso
    obtain⟨o,ho⟩:=X5 (c:=c0) (cs:=Hb) hf.defers hm hfn hv
    rw [Co] at ho
    cases ho
   | ok y x1 v1 es1 hw hv hq ha hes1=>
    have hvT:(results fn fr.tmps).runT P (L.at d) #[]=(.ok y v1,(results fn fr.tmps).events P (L.at d) #[]):=by rw [lk,hv]
    rw [DY hf.defers hf.kind hm hfn hvT] at Co
    injection Co with e1 e2 e3
    subst e2
    refine⟨x1,_,?_,⟨_,ha⟩,Kd (P:=P) (fn:=fr.fn) (es:=#[]++es1) (by simpa using hes1)⟩
    rw [U2,DY hf.defers hf.kind hm hfn hw,e1]
  obtain⟨u',Fi,h1,⟨K,h2⟩,h3⟩:=key (u.at d) hsim rfl rfl
  have hnu:NF (u.at d):=hn.1
  have hn':NF u':=hnu.after h2
  have hnj:NJ J u':=⟨hn',fun i hi=>(show Fb (u.at d) i from hn.2 i hi).moved (Gi hJ h2) hi⟩
  refine⟨_,u',⟨rfl,hnj,Gi hJ h2,fun x hx=>?_⟩,Dk val L' u' E5 h2.sim (by rw [h2.vt,h2.wt];exact ht) ⟨aE hk.grow h2.grow,fun i hi=>(h2.keep i hi).trans (hk.keep i hi),hk.same.trans h2.same,h2.wt.trans hk.tape,fun i o ho hno=>hk.far i o (h2.far i o ho hno) hno⟩ hnj⟩
  obtain⟨x',es2,g1,⟨K2,g2⟩,g3⟩:=key x (hx.sim hJ hsim) hx.tape.symm hx.drawn.symm
  exact Q86
 | @step fr up L fr' up' L' es h hnx ih=>
  intro hf hu u hs hn ht hk Dk
  refine Fw.step hn rfl fun d=>?_
  obtain⟨Co,Di,hsm,Hf⟩:=h d
  have hsim:Cq Bs (u.at d) (L.at d):=hs.at d d
  have Gw:¬(up = []/\fr.mode=.returning):=by
   rintro⟨rfl,hm⟩
   obtain⟨fn,hfn⟩:=hf.fn
   rw [aP] at Co
   cases hr:(results fn fr.tmps).run P (L.at d) with
   | halt hh v1=>
    exact Zkf
   | ok y v1=>
    have hvT:(results fn fr.tmps).runT P (L.at d) #[]=(.ok y v1,(results fn fr.tmps).events P (L.at d) #[]):=by rw [lk,hr]
    rw [DY hf.defers hf.kind hm hfn hvT] at Co
    injection Co with e1 e2 e3
    exact N70
  have key:∀x,Cq Bs x (L.at d)->x.tape=u.tape->x.drawn=d->∃x' Fi,stepG P main (G fr (up++c0 :: Hb)) x=.go (G (fr' d) (up' d++c0 :: Hb)) x' Fi/\(∃K,After Bs K x (L.at d) x' (L' d))/\(∀e∈Fi,Pd Bs x'.heap.size e)/\Km P S (fr' d)/\R8 P S (up' d):=by
   intro x hsx htx hdx
   obtain⟨K,hK⟩:=Z0 (Bs:=Bs) hS hf hu Gw x
   cases hK (c0 :: Hb) (c0 :: Hb) (L.at d) hsx (Ou.of (ht.trans htx.symm) hdx) with
   | bad o v' hv=>rw [Co] at hv;cases hv
   | panic ch v' hv=>
    exfalso
    rw [Co] at hv
    injection hv with e1 e2
    obtain⟨e3,e4⟩:=RP e1
    obtain⟨c',ec⟩:=raise_mode fr ch
    have e5:=dP e4
    refine DI hc0 (hnx d) c' (by rw [e3,ec]) (by rw [e3,ec];exact hf.defers) (by rw [e3,ec];exact hf.fn) fun y hy=>?_
    rw [e5] at hy
    exact⟨(hu y hy).1.defers,(hu y hy).1.fn⟩
   | go fr2 up2 w' v' Fi hw hv hf' hu' ha hes'=>
    rw [Co] at hv
    injection hv with e1 e2
    obtain⟨e3,e4⟩:=RP e1
    have e5:=dP e4
    subst e2
    rw [e3,e5]
    exact⟨w',Fi,by rw [hmain];exact hw,⟨K,ha⟩,hes',hf',hu'⟩
  obtain⟨u',Fi,h1,⟨K,h2⟩,h3,h4,h5⟩:=key (u.at d) hsim rfl rfl
  have hnu:NF (u.at d):=hn.1
  have hn':NF u':=hnu.after h2
  have hnj:NJ J u':=⟨hn',fun i hi=>(show Fb (u.at d) i from hn.2 i hi).moved (Gi hJ h2) hi⟩
  refine⟨_,u',⟨rfl,hnj,Gi hJ h2,fun x hx=>?_⟩,ih d h4 h5 u' h2.sim hnj (by rw [h2.vt,h2.wt];exact ht) ⟨aE hk.grow h2.grow,fun i hi=>(h2.keep i hi).trans (hk.keep i hi),hk.same.trans h2.same,h2.wt.trans hk.tape,fun i o ho hno=>hk.far i o (h2.far i o ho hno) hno⟩ Dk⟩
  obtain⟨x',es2,g1,⟨K2,g2⟩,g3,_⟩:=key x (hx.sim hJ hsim) hx.tape.symm hx.drawn.symm
  exact Q86
theorem AL(hs:Cq Bs u w)(h:Cq (fun _=>False) w v):Cq Bs u v:=by
 have e:∀i,v.heap[i]? = w.heap[i]?:=fun i=>by
  rcases h.like i with⟨_,e,_⟩|⟨hb,_⟩|⟨_,⟨o,ho,hk⟩,hv⟩|⟨hb,_⟩
  ·exact e
  ·exact hb.elim
  ·rcases hs.plain i o ho with h1|rfl
   ·exact absurd h1 hk
   ·rw [hv,ho]
  ·exact hb.elim
 exact⟨h.size.trans hs.size,fun i=>by rw [e];exact hs.like i,h.os.trans hs.os,h.output.trans hs.output⟩
theorem WV(hS:BL P S){f:FuncId}(hf:S f)(hJ:LH J Bs)(hc:∀i,Bs i->Em u i){args:Array tj}(Ga:S.reg f (bz P f args .normal).tmps){R:Ending->qq->Prop}(hR1:∀c v,¬R (.panicked c) v)(hR2:∀v,¬R .outgrown v)(H:∀v,Cq Bs u v->Calls P f args v R):Bz P main J StopV f args u (fun val u'=>Kept Bs u u'/\∃v',Cq Bs u' v'/\R (.returned val) v'):=by
 obtain⟨fn',c,h1,Fo,h2,h3⟩:=hS f hf
 refine⟨fn',c,h1,Fo,h2,fun c0 Hb hm Bo hn=>?_⟩
 refine Y85 ?_;intro henter
 rw [henter]
 have hs0:=Iz hc u.tape u.drawn
 have hF:Pe P (fun _=>False) c0 Hb (fun val L'=>Kept (fun _=>False) (blank Bs u u.tape u.drawn) L'/\∃v',Cq (fun _=>False) L' v'/\R (.returned val) v') (bz P f args .normal) [] (blank Bs u u.tape u.drawn):=by
  refine bG fun hno=>?_
  let x0:R7 P S (fun _=>False) c0 Hb (fun val L'=>Kept (fun _=>False) (blank Bs u u.tape u.drawn) L'/\∃v',Cq (fun _=>False) L' v'/\R (.returned val) v') (blank Bs u u.tape u.drawn):=⟨bz P f args .normal,[],_,(Mq hS hf args Ga).1,(fun _ h=>by cases h),Kept.refl _,hno⟩
  have hs1:=Oj (Bs:=fun _=>False) (w:=blank Bs u u.tape u.drawn) (fun _ h=>h.elim) (Rh hS x0) 0
  obtain⟨e,v',fr,hR,hcomes,_,hl⟩:=H _ (AL hs0 hs1) [Ki P]
  cases e with
  | panicked ch=>exact hR1 ch v' hR
  | outgrown=>exact hR2 v' hR
  | returned val=>
   obtain⟨n,hn⟩:=hcomes
   exact Wb hS x0 hl hR (fun val w' v hk hs hr=>⟨hk,v,hs,hr⟩) n 0 _ hn hs1 rfl rfl
 exact NR hS hJ hm hF (Mq hS hf args Ga).1 (fun _ h=>by cases h) u hs0 hn rfl (Kept.refl u) fun val L' u' ⟨_,v',hv,hR⟩ hs' ht' hk'=>Bo val u' ⟨hk',v',AL hs' hv,hR⟩
theorem Lz{fn:FuncId}{Q:Exit->Act->qq->Prop}{a:Act}{ops:Array Oper}{i:Nat}{l:List Nat}{o:Oper}(ho:ops[i]? = lp o)(hw:Region.wanted o (yielded ops a.tmps)=s7)(hT:Sj P S fn o)(Ga:S.reg fn a.tmps)(hJ:LH J Bs)(hc:∀i,Bs i->Em w i){R:tj->qq->Prop}(H:∀L,Cq Bs w L->∃x L',Yields P (execOp a.eval o) L x L'/\R x L')(Bo:∀x w' L',Kept Bs w w'->Cq Bs w' L'->R x L'->opsV P main J StopV fn ops l Q (a.put o.dst x) w'):opsV P main J StopV fn ops (i :: l) Q a w:=by
 intro b k z hb hk hcn
 refine Sp3 ?_;intro hT'
 have hke:b.kind≠.early:=by rw [hk];decide
 refine EV.step rfl fun hn d=>?_
 have hsim:Cq Bs (w.at d) (blank Bs w w.tape d):=(Iz hc w.tape d).at d d
 obtain⟨y,L',hy,hR⟩:=H _ (Iz hc w.tape d)
 have key:∀x,Cq Bs x (blank Bs w w.tape d)->x.tape=w.tape->x.drawn=d->∃x' Fi,stepG P main (G (b.at a (.inRegion ops (i :: l) :: k)) z) x=.go (G (b.at (a.put o.dst y) (.inRegion ops l :: k)) z) x' Fi/\(∃K,After Bs K x (blank Bs w w.tape d) x' L')/\∀e∈Fi,Pd Bs x'.heap.size e:=by
  intro x hsx htx hdx
  cases Kf (execOp a.eval o) (fun _=>False) x (blank Bs w w.tape d) #[] hT' (fun _ h=>h.elim) hsx (fun j _=>by rw [htx,hdx];rfl) with
  | bad h v1 hr hbad=>rcases hy with h1|⟨h1,_⟩ <;> (rw [h1] at hr;cases hr)
  | panic y w1 v1 es hw1 hv1 ha Hf=>rcases hy with h1|⟨h1,_⟩ <;> (rw [h1] at hv1;cases hv1)
  | ok n x1 v1 es hw1 hv1 hq ha Hf=>
   rw [lk] at hw1
   obtain⟨r1,r2⟩:=eL hw1
   have hev:∀e∈listed P b.fn a o x,Pd Bs x1.heap.size e:=fun e he=>by
    have:=mem_seen he
    rw [r2] at this
    exact Hf e (by simpa using this)
   rcases hy with h1|⟨h1,rfl⟩
   ·rw [h1] at hv1
    injection hv1 with e1 e2
    subst e1 e2
    exact⟨x1,_,stepG_value ho hw hke r1,⟨_,ha⟩,hev⟩
   ·rw [h1] at hv1
    injection hv1 with e1 e2
    subst e1 e2
    exact⟨x1,_,Lm ho hw hke r1,⟨_,ha⟩,hev⟩
 obtain⟨u',Fi,h1,⟨K,h2⟩,h3⟩:=key (w.at d) hsim rfl rfl
 have hnu:NF (w.at d):=hn.1
 have hn':NF u':=hnu.after h2
 have hnj:NJ J u':=⟨hn',fun i hi=>(show Fb (w.at d) i from hn.2 i hi).moved (Gi hJ h2) hi⟩
 refine⟨_,u',⟨rfl,hnj,Gi hJ h2,fun x hx=>?_⟩,Bo y u' L' ⟨h2.grow,h2.keep,h2.same,h2.wt,h2.far⟩ h2.sim hR b k z hb hk hcn⟩
 obtain⟨x',es2,g1,⟨K2,g2⟩,g3⟩:=key x (hx.sim hJ hsim) hx.tape.symm hx.drawn.symm
 exact⟨x',es2,g1,Ct.after (v:=blank Bs w w.tape d) hx rfl rfl g2 h2 hn',Gi hJ g2,fun e he=>Mj hJ (g3 e he)⟩
end
section
variable {Shun:Loc->Prop} {k Wg Ch:Nat} {LA LB LA' LB':qq->Loc->Bool->Prop} {t u:bd} {w w':qq} {dA dB:Nat}
theorem TI.move(h:TI Shun k Wg Ch LA LB t w dA dB)(hA:∀l x,LA w l x->LA w' l x)(hB:∀l x,LB w l x->LB w' l x)(hs:w.heap.size<=w'.heap.size):TI Shun k Wg Ch LA LB t w' dA dB:=
 ⟨h.clean,fun i a ha hm=>(h.knA i a ha hm).imp id fun h=>h.imp id fun h=>⟨h.1,h.2.imp (hB _ _) id⟩,fun i a ha hm=>(h.knB i a ha hm).imp id fun h=>h.imp id fun h=>⟨h.1,h.2.imp (hA _ _) id⟩,h.over,h.dA,h.dB,fun op Bt=>MemAct.low_mono hs (h.seen op Bt)⟩
theorem Aaz(t:bd)(g:Nat){l:List MemOp}(h:∀op∈l,∀m,op.act≠.mark m):∀d,l.foldl (deafStep g) d=d:=by
 induction l with
 | nil=>exact fun _=>rfl
 | cons y l ih=>
  intro d
  have hy:=h y Ae
  have e:deafStep g d y=d:=by
   obtain⟨y1,y2,y3,act⟩:=y
   cases act <;> first|rfl|exact absurd rfl (hy _)
  rw [eR,e]
  exact ih (fun op Bt=>h op (by simp [Bt])) d
theorem UT(hk:0<k)(h:TI Shun k Wg Ch LA LB t w 0 0){c s:Nat}{x y z v:MemOp}(hx:x.g=k/\x.act=.send c s)(hy:y.g=0/\y.act=.recv c s 0)(hz:z.g=k/\z.act=.sendDone c s)(hv:v.g=0/\v.act=.recvDone c s)(hs:w.heap.size<=w'.heap.size)(hc:c<w'.heap.size):TI Shun k Wg Ch LA' LB' (t++#[x,y,z,v]) w' 0 0:=by
 have hn:∀op∈(#[x,y,z,v]:bd),op.act.touch? = none/\(∀m,op.act≠.mark m)/\op.act.low w'.heap.size/\(op.g=0∨op.g=k):=fun op Bt=>by
  simp at Bt
  rcases Bt with rfl|rfl|rfl|rfl
  ·rw [hx.2];exact⟨rfl,Ae,hc,o5 hx.1⟩
  ·rw [hy.2];exact⟨rfl,Ae,hc,af hy.1⟩
  ·rw [hz.2];exact⟨rfl,Ae,hc,o5 hz.1⟩
  ·rw [hv.2];exact⟨rfl,Ae,hc,af hv.1⟩
 have hd:∀g,Deaf (t++#[x,y,z,v]) g=Deaf t g:=fun g=>Go.ConcN.Deaf_still t g _ fun op Bt=>⟨(hn op Bt).2.1 .disable,(hn op Bt).2.1 .enable⟩
 have i0:(t++#[x,y,z,v])[t.size]? = lp x:=Ae
 have i1:(t++#[x,y,z,v])[t.size+1]? = lp y:=by rw [cL Ab];simp
 have i2:(t++#[x,y,z,v])[t.size+2]? = lp z:=by rw [cL Ab];simp
 have i3:(t++#[x,y,z,v])[t.size+3]? = lp v:=by rw [cL Ab];simp
 have still:∀(g:Nat) {op:MemOp},op∈(#[x,y,z,v]:bd)->∀d,deafStep g d op=d:=fun g op Bt d=>by
  have:=Aaz t g (l:=[op]) (fun o ho=>by simp at ho;subst ho;exact(hn _ Bt).2.1) d
  simpa using this
 have d0:∀g,(t++#[x,y,z,v]).deaf g t.size=Deaf t g:=fun g=>deaf_old (aA _)
 have d1:∀g,(t++#[x,y,z,v]).deaf g (t.size+1)=Deaf t g:=fun g=>by rw [deaf_succ i0,still g Ae,d0]
 have d2:∀g,(t++#[x,y,z,v]).deaf g (t.size+2)=Deaf t g:=fun g=>by rw [deaf_succ i1,still g Ae,d1]
 have d3:∀g,(t++#[x,y,z,v]).deaf g (t.size+3)=Deaf t g:=fun g=>by rw [deaf_succ i2,still g Ae,d2]
 have old:∀i a,touchAt (t++#[x,y,z,v]) i=lp a->touchAt t i=lp a:=fun i a ha=>by
  obtain⟨o,ho,hoa⟩:=touch_of ha
  rcases getElem?_append_cases ho with⟨_,ho'⟩|⟨_,hou⟩
  ·rw [touchAt_of ho'];exact hoa
  ·rw [(hn o hou).1] at hoa;cases hoa
 have B9:HappensBefore (t++#[x,y,z,v]) t.size (t.size+3):=
  .single (o5 ⟨.handOver (c:=c) (k:=s) (by rw [act?_of i0,hx.2]) (by rw [act?_of i3,hv.2]),⟨k,by simp only [pg,i0,bA,hx.1],by rw [d0];exact h.dB⟩,⟨0,by simp only [pg,i3,bA,hv.1],by rw [d3];exact h.dA⟩⟩)
 have Fs:HappensBefore (t++#[x,y,z,v]) (t.size+1) (t.size+2):=
  .single (o5 ⟨.room (c:=c) (k:=s) (cap:=0) (by rw [act?_of i1,hy.2]) (by rw [act?_of i2,hz.2];rfl),⟨0,by simp only [pg,i1,bA,hy.1],by rw [d1];exact h.dA⟩,⟨k,by simp only [pg,i2,bA,hz.1],by rw [d2];exact h.dB⟩⟩)
 have ownK:∀{i g:Nat},t.g? i=lp g->Knows t g i:=fun {i g} hg=>by
  obtain⟨o,ho,hog⟩:=aJ.1 hg
  have:=knows_own ho
  rwa [hog] at this
 refine⟨fun said=>?_,fun i a ha hm=>?_,fun i a ha hm=>?_,Np h.over fun op Bt=>(hn op Bt).2.2.2.elim af fun e=>o5 (af e),(hd 0).trans h.dA,(hd k).trans h.dB,Oh h.seen hs fun op Bt=>(hn op Bt).2.2.1⟩
 ·rintro⟨i,j,hij,⟨a,b,ha,hb,hcf⟩,n1,n2⟩
  exact h.clean said ⟨i,j,hij,⟨a,b,old i a ha,old j b hb,hcf⟩,fun e=>n1 (hb_app _ e),fun e=>n2 (hb_app _ e)⟩
 ·rcases h.knA i a (old i a ha) hm with h1|h1|⟨h1,_⟩
  ·exact af (h1.app _)
  ·exact o5 (af h1)
  ·exact af ⟨t.size+3,v,i3,hv.1,o5 (((ownK h1).hb_new (aA _) i0 hx.1).trans B9)⟩
 ·rcases h.knB i a (old i a ha) hm with h1|h1|⟨h1,_⟩
  ·exact af (h1.app _)
  ·exact o5 (af h1)
  ·exact af ⟨t.size+2,z,i2,hz.1,o5 (((ownK h1).hb_new Ab i1 hy.1).trans Fs)⟩
end
structure VC where
 P:Program
 Shun:Loc->Prop
 k:Nat
 Wg:Nat
 Ch:Nat
 ty:TypeId
 Jc:Addr->Prop
 Ro:Addr->Prop
 Facts:qq->Prop
 FB:qq->Prop
 PostA:gq->qq->Prop
 Bx:qq->Prop:=fun _=>True
 far:Nat->Obj->Prop:=fun _ _=>False
def VC.J1(C:VC)(l:Loc):Prop:=Hy C.Wg l∨l=.obj C.Ch∨C.Shun l∨∃a,l=.cell a/\C.Ro a
def VC.J2(C:VC)(l:Loc):Prop:=(∃a,l=.cell a/\C.Jc a)∨C.J1 l
structure VC.Le(C:VC)(w v:qq):Prop where
 size:v.heap.size<=w.heap.size
 like:∀i,i<v.heap.size->i≠C.Wg->i≠C.Ch->Alike C.J2 w v i
 same:Ed v w
theorem Ct.le{C:VC}{w v:qq}(h:Ct C.J2 w v):C.Le w v:=⟨dX h.size,fun i _ _ _=>h.like i,⟨h.os.symm,h.output.symm⟩⟩
def VC.Fa(C:VC)(w:qq):Prop:=∀(i:Nat) (o:Obj),w.heap[i]? = lp o->¬B7 o->C.far i o
theorem VC.Fa.keep{C:VC}{w w':qq}(h:C.Fa w)(k:∀(i:Nat) (o:Obj),w'.heap[i]? = lp o->¬B7 o->w.heap[i]? = lp o):C.Fa w':=fun i o e n=>h i o (k i o e n) n
def VC.Msg(C:VC)(w:qq):Prop:=∃v,C.Le w v/\NF v/\C.Fa w/\C.Facts v
def VC.c2(C:VC)(KB:Nat->Obj->Prop):Pu:=
 {P:=C.P,Shun:=C.Shun,k:=C.k,Wg:=C.Wg,Ch:=C.Ch,ty:=C.ty,LA:=fun _ l _=>¬C.J2 l,LB:=fun _ l _=>∃a,l=.cell a/\C.Jc a,KA:=fun _ _=>False,KB,β:=Unit,Msg:=fun _ _ w=>C.Msg w,FB:=fun _ w=>C.FB w,PostA:=fun _ g w=>C.PostA g w }
def VC.KA(C:VC)(i:Nat)(_:Obj):Prop:=i≠C.Wg/\i≠C.Ch
structure VC.Ok(C:VC):Prop where
 hk:0<C.k
 neq:C.Wg≠C.Ch
 wgS:∀l,Hy C.Wg l->¬C.Shun l
 shun:∀l,C.Shun l->∃a:Addr,l=.cell a/\a.block≠C.Ch
 jw:∀a,C.Jc a->a.block≠C.Wg/\a.block≠C.Ch/\¬C.Shun (.cell a)
 ro:∀a,C.Ro a->a.block≠C.Wg/\a.block≠C.Ch/\¬C.Shun (.cell a)
 fb:∀w w',Ht C.J2 w w'->C.FB w->C.FB w'
 fbB:∀w w',Gf C.KA w w'->C.FB w->C.FB w'
 postAt:∀g w d,C.PostA g (w.at d)↔C.PostA g w
 bx:∀w w',w.heap.size<=w'.heap.size->(∀a:Addr,C.Ro a->a.block<w.heap.size->w'.cell? a=w.cell? a)->C.Bx w->C.Bx w'
section
variable {C:VC} {w w':qq}
theorem VC.Ok.parts(O:C.Ok)(KB:Nat->Obj->Prop):Tc C.Shun C.Wg C.Ch (C.c2 KB).LA (C.c2 KB).LB:=by
 refine⟨fun w l x y hA ⟨a,e,ha⟩=>absurd (af ⟨a,e,ha⟩) hA,fun w l x h=>⟨fun e=>h (o5 (af e)),fun e=>h (o5 (o5 (af e))),fun e=>h (o5 (o5 (o5 (af e))))⟩,fun w l x ⟨a,e,ha⟩=>?_,fun w w' l x g h=>h,fun w w' l x g h=>h,O.wgS,fun h=>?_⟩
 ·subst e
  obtain⟨h1,h2,h3⟩:=O.jw a ha
  exact⟨fun⟨b,e,hb⟩=>by cases e;exact h1 hb,Ae,h3⟩
 ·obtain⟨a,e,_⟩:=O.shun _ h
  cases e
theorem Alike.put(i:Nat){J:Loc->Prop}{v:qq}(h:Alike J w v i)(e:w'.heap[i]? = w.heap[i]?):Alike J w' v i:=by
 unfold Alike at *
 rw [e];exact h
theorem IT(h:Gf C.KA w w')(hm:C.Msg w):C.Msg w':=by
 obtain⟨v,hv,hn,hw,hf⟩:=hm
 refine⟨v,⟨aE hv.size h.size,fun i hi hw hch=>?_,⟨h.os.trans hv.same.1,h.output.trans hv.same.2⟩⟩,hn,hw.keep h.far,hf⟩
 refine(hv.like i hi hw hch).put i ?_
 have Cg:i<w.heap.size:=aB hi hv.size
 have e:w.heap[i]? = lp w.heap[i]:=aZ Cg
 rw [e]
 exact h.keep i _ e ⟨hw,hch⟩
theorem VC.Ok.cfg(O:C.Ok):(C.c2 C.KA).Ok where
 hk:=O.hk
 parts:=O.parts _
 neq:=O.neq
 ka:=fun i o h=>h.elim
 kb:=fun i o h=>h
 msgB:=fun _ _ w w' h hm=>IT h hm
 fbB:=fun _ w w' h hf=>O.fbB w w' h hf
 postAt:=fun _ g w d=>O.postAt g w d
structure LF(C:VC)(w w':qq)(es:Array p6):Prop where
 sim:∃d,Ct (fun l=>∃a,l=.cell a/\C.Jc a) w' (w.at d)
 far:∀(i:Nat) (o:Obj),w'.heap[i]? = lp o->¬B7 o->w.heap[i]? = lp o
 ev:∀e∈es,(∃m,e.loc=.mark m/\Neutral m)∨∃a wr,e=⟨.cell a,wr,vp⟩/\C.Jc a/\a.block<w'.heap.size
theorem Ct.trans{J:Loc->Prop}{a b c:qq}(h:Ct J a b)(h':Ct J b c):Ct J a c:=by
 refine⟨h'.size.trans h.size,fun i=>?_,h'.os.trans h.os,h'.output.trans h.output,h'.tape.trans h.tape,h'.drawn.trans h.drawn⟩
 rcases h.like i with e|⟨c1,c2,e,fz,h1,h2,h3,h4⟩|⟨hJ,o,o',h1,h2,h3,h4⟩|⟨hf,h2⟩
 ·unfold Alike;rw [←e];exact h'.like i
 ·rcases h'.like i with e'|⟨d1,d2,e',fz',k1,k2,k3,k4⟩|⟨hJ,o,o',k1,k2,k3,k4⟩|⟨⟨o4,k1,n4⟩,k2⟩
  ·exact o5 (af ⟨c1,c2,e,fz,h1,by rw [e'];exact h2,h3,h4⟩)
  ·rw [h2] at k1
   simp at k1
   obtain⟨rfl,rfl,rfl⟩:=k1
   exact o5 (af ⟨c1,d2,e,fz,h1,k2,k3.trans h3,fun j hj=>(k4 j hj).trans (h4 j hj)⟩)
  ·rw [h2] at k1
   obtain rfl:=aC k1
   cases k3
  ·rw [h2] at k1
   obtain rfl:=aC k1
   exact absurd trivial n4
 ·rcases h'.like i with e'|⟨d1,d2,e',fz',k1,k2,k3,k4⟩|⟨_,p,p',k1,k2,k3,k4⟩|⟨⟨o4,k1,n4⟩,k2⟩
  ·exact o5 (o5 (af ⟨hJ,o,o',h1,by rw [e'];exact h2,h3,h4⟩))
  ·rw [h2] at k1
   obtain rfl:=aC k1
   cases h4
  ·exact o5 (o5 (af ⟨hJ,o,p',h1,k2,h3,k4⟩))
  ·rw [h2] at k1
   obtain rfl:=aC k1
   exfalso
   cases o' <;> first|exact n4 trivial|cases h4
 ·rcases h'.like i with e'|⟨d1,d2,e',fz',k1,k2,k3,k4⟩|⟨_,p,p',k1,k2,k3,k4⟩|⟨_,k2⟩
  ·exact o5 (o5 (o5 ⟨hf,by rw [e'];exact h2⟩))
  ·rw [h2] at k1;cases k1
  ·rw [h2] at k1
   obtain rfl:=aC k1
   cases k3
  ·exact o5 (o5 (o5 ⟨hf,k2⟩))
theorem Ct.mono{J J':Loc->Prop}{a b:qq}(h:Ct J a b)(hJ:∀l,J l->J' l):Ct J' a b:=
 ⟨h.size,fun i=>(h.like i).imp id fun x=>x.imp (fun⟨c,c',e,fz,h1,h2,h3,h4⟩=>⟨c,c',e,fz,h1,h2,h3,fun j hj=>h4 j fun hx=>hj (hJ _ hx)⟩) fun x=>x.imp (fun⟨h0,h1⟩=>⟨hJ _ h0,h1⟩) id,h.os,h.output,h.tape,h.drawn⟩
theorem Ct.grow{J:Loc->Prop}{a b:qq}(h:Ct J a b):Jy b a:=by
 refine⟨dX h.size,fun i o ho=>?_⟩
 rcases h.like i with e|⟨c,c',e,fz,h1,h2,h3,h4⟩|⟨hJ,x,x',h1,h2,h3,h4⟩|⟨⟨o4,h1,n4⟩,h2⟩
 ·exact⟨o,e▸ho,rfl⟩
 ·rw [h2] at ho
  obtain rfl:=aC ho
  exact⟨_,h1,rfl⟩
 ·rw [h2] at ho
  obtain rfl:=aC ho
  refine⟨x,h1,?_⟩
  cases x <;> first|(cases h3;done)|(cases x' <;> first|rfl|(cases h4;done)|skip)
  all_goals first|rfl|(simp [Obj.isChan] at h3 h4)
 ·rw [h2] at ho
  obtain rfl:=aC ho
  refine⟨o4,h1,?_⟩
  exact S98
theorem Le.trans{v:qq}(h:Ct C.J2 w' w)(hv:C.Le w v):C.Le w' v:=by
 refine⟨by rw [←h.size];exact hv.size,fun i hi hw hc=>?_,⟨h.os.symm.trans hv.same.1,h.output.symm.trans hv.same.2⟩⟩
 rcases hv.like i hi hw hc with e|⟨c1,c2,e,fz,h1,h2,h3,h4⟩|⟨hJ,o,o',h1,h2,h3,h4⟩|⟨⟨o4,h1,n4⟩,h2⟩
 ·unfold Alike;rw [e];exact h.like i
 ·rcases h.like i with e'|⟨d1,d2,e',fz',k1,k2,k3,k4⟩|⟨hJ,o,o',k1,k2,k3,k4⟩|⟨_,k2⟩
  ·exact o5 (af ⟨c1,c2,e,fz,by rw [←e'];exact h1,h2,h3,h4⟩)
  ·rw [h1] at k2
   simp at k2
   obtain⟨rfl,rfl,rfl⟩:=k2
   exact o5 (af ⟨d1,c2,e,fz,k1,h2,h3.trans k3,fun j hj=>(h4 j hj).trans (k4 j hj)⟩)
  ·rw [h1] at k2
   obtain rfl:=aC k2
   cases k4
  ·rw [h1] at k2;cases k2
 ·rcases h.like i with e'|⟨d1,d2,e',fz',k1,k2,k3,k4⟩|⟨_,p,p',k1,k2,k3,k4⟩|⟨_,k2⟩
  ·exact o5 (o5 (af ⟨hJ,o,o',by rw [←e'];exact h1,h2,h3,h4⟩))
  ·rw [h1] at k2
   obtain rfl:=aC k2
   cases h3
  ·exact o5 (o5 (af ⟨hJ,p,o',k1,h2,k3,h4⟩))
  ·rw [h1] at k2
   obtain rfl:=aC k2
   cases h3
 ·rcases h.like i with e'|⟨d1,d2,e',fz',k1,k2,k3,k4⟩|⟨_,p,p',k1,k2,k3,k4⟩|⟨hf,k2⟩
  ·exact o5 (o5 (o5 ⟨⟨o4,by rw [←e'];exact h1,n4⟩,h2⟩))
  ·rw [h1] at k2
   obtain rfl:=aC k2
   exact absurd trivial n4
  ·rw [h1] at k2
   obtain rfl:=aC k2
   exfalso
   cases o4 <;> first|exact n4 trivial|cases k4
  ·exact o5 (o5 (o5 ⟨hf,h2⟩))
end
theorem G6{P:Program}{main:Bool}{R R':qq->qq->Prop}{D D':qq->qq->Array p6->Prop}{Stop Stop':gq->qq->Prop}(hR:∀w w',R' w w'->R w w')(hD:∀w w' es,D w w' es->D' w w' es)(hS:∀g w,Stop g w->Stop' g w) :
  ∀{n:Nat} {g:gq} {w:qq},Goes P main R D Stop n g w->Goes P main R' D' Stop' n g w
 | 0,_,_,h=>fun w₁ h₁=>hS _ _ (h w₁ (hR _ _ h₁))
 | n+1,g,w,h=>by
  rcases h with h|⟨hs,h⟩
  ·exact af fun w₁ h₁=>hS _ _ (h w₁ (hR _ _ h₁))
  ·refine o5 ⟨hs,fun w₁ h₁=>?_⟩
   have:=h w₁ (hR _ _ h₁)
   revert this
   cases stepG P main g w₁ <;> simp only [GStep.goes,imp_self]
   exact fun⟨d,x⟩=>⟨hD _ _ _ d,G6 hR hD hS x⟩
abbrev S1:List (Unit×tj):=[((),undef)]
structure Wz(C:VC)(w w':qq):Prop where
 size:w.heap.size<=w'.heap.size
 cell:∀a:Addr,C.Jc a∨C.Ro a->a.block<w.heap.size->w'.cell? a=w.cell? a
 fz:∀a:Addr,C.Jc a->a.block<w.heap.size->w'.frozen? a=w.frozen? a
 tape:w'.tape=w.tape
 same:Ed w w'
 wg:Dq C.ty C.Wg w->Dq C.ty C.Wg w'
section
variable (C:VC)
abbrev VC.c0:Pu:={ C.c2 (fun _ _=>False) with FB:=fun _ _=>True,Msg:=fun _ _ _=>True }
abbrev VC.cE:Pu:=C.c2 C.KA
def BCl(g:gq)(w:qq):Prop:=
 g.status=.running/\mayWake C.P g=s7/\C.FB w/\∀s r tm,w.heap[C.Ch]? = lp (.chan 0 #[] vp s r tm) ->
  ∃g₂,stepG C.P vp g w=.go g₂ (w.shut C.Ch s r tm) #[⟨.obj C.Ch,vp,s7⟩,⟨.obj C.Ch,s7,s7⟩]/\g₂.status=.running/\∃m,Goes C.P vp (RB C.c0) D0 (RN C.c0 S1) m g₂ (w.shut C.Ch s r tm)
def StopA(g:gq)(v:qq):Prop:=C.Facts v/\∀w,Dq C.ty C.Wg w->WN C.cE S1 g w
end
section
variable {C:VC} {w w' v:qq} {t:bd}
theorem Wz.refl(w:qq):Wz C w w:=⟨aA _,fun _ _ _=>rfl,fun _ _ _=>rfl,rfl,Ed.refl _,id⟩
theorem Wz.trans{a b c:qq}(h:Wz C a b)(h':Wz C b c):Wz C a c:=
 ⟨aE h.size h'.size,fun x hx hl=>(h'.cell x hx (aB hl h.size)).trans (h.cell x hx hl),fun x hx hl=>(h'.fz x hx (aB hl h.size)).trans (h.fz x hx hl),h'.tape.trans h.tape,h.same.trans h'.same,fun x=>h'.wg (h.wg x)⟩
theorem ZA:Vf C.J2 C.Wg:=fun j=>o5 (af ⟨_,rfl,rfl⟩)
theorem Vc(h:Ht C.J2 w w'){st sm:Int}(hw:D3 C.ty C.Wg w st sm):D3 C.ty C.Wg w' st sm:=by
 unfold D3 at *
 rw [h.row C.Wg (Rz hw) ZA];exact hw
theorem Ht.rbv(h:Ht C.J2 w w'):Wz C w w':=⟨h.size,fun a ha hl=>h.cell a (ha.elim (fun ha=>af ⟨a,rfl,ha⟩) fun ha=>o5 (o5 (o5 (o5 ⟨a,rfl,ha⟩)))) hl,fun a ha hl=>h.fz a (af ⟨a,rfl,ha⟩) hl,h.tape,h.same,fun⟨st,sm,x⟩=>⟨st,sm,Vc h x⟩⟩
theorem Ht.rb0(h:Ht C.J2 w w'):RB C.c0 w w':=⟨⟨h.tape,h.same.1,h.same.2,h.size,fun _ _ _ h=>h.elim,h.far⟩,fun⟨st,sm,x⟩=>⟨st,sm,Vc h x⟩⟩
theorem Kw(h:RB C.cE w w'):RB C.c0 w w':=⟨⟨h.keep.tape,h.keep.os,h.keep.output,h.keep.size,fun _ _ _ h=>h.elim,h.keep.far⟩,h.wg⟩
theorem YX(O:C.Ok)(h:RB C.cE w w'):Wz C w w':=by
 have key:∀a:Addr,C.Jc a∨C.Ro a->a.block<w.heap.size->w'.heap[a.block]? = w.heap[a.block]?:=fun a ha hl=>by
  obtain⟨h1,h2,_⟩:a.block≠C.Wg/\a.block≠C.Ch/\¬C.Shun (.cell a):=ha.elim (O.jw a) (O.ro a)
  have e:w.heap[a.block]? = lp w.heap[a.block]:=aZ hl
  have:=h.keep.keep a.block _ e ⟨h1,h2⟩
  rw [e,this]
 exact⟨h.keep.size,fun a ha hl=>by unfold World.cell?;rw [key a ha hl],fun a ha hl=>by unfold World.frozen?;rw [key a (af ha) hl],h.keep.tape,⟨h.keep.os,h.keep.output⟩,h.wg⟩
theorem P6(O:C.Ok){d:Nat}(h:Ct (fun l=>∃a,l=.cell a/\C.Jc a) w' (w.at d))(hfar:∀(i:Nat) (o:Obj),w'.heap[i]? = lp o->¬B7 o->w.heap[i]? = lp o){i:Nat}(hi:i=C.Wg∨i=C.Ch):w'.heap[i]? = w.heap[i]?:=by
 rcases h.like i with e|⟨c,c',e,fz,h1,h2,h3,h4⟩|⟨⟨a,e,_⟩,_⟩|⟨⟨o4,h4,n4⟩,_⟩
 ·exact e.symm
 ·have:c'=c:=cY fun j=>h4 j fun⟨a,ea,ha⟩=>by
   cases ea
   obtain⟨k1,k2,_⟩:=O.jw _ ha
   rcases hi with rfl|rfl
   ·exact k1 rfl
   ·exact k2 rfl
  subst this
  rw [h1];exact h2.symm
 ·cases e
 ·exact h4.trans (hfar i o4 h4 n4).symm
theorem Ct.jc(h:Ct (fun l=>∃a,l=.cell a/\C.Jc a) w' w):Ct C.J2 w' w:=h.mono fun l h=>af h
theorem Le.at(h:C.Le w v)(d:Nat):C.Le (w.at d) v:=⟨h.size,h.like,h.same⟩
theorem LF.db(O:C.Ok){es:Array p6}(h:LF C w w' es):DB C.cE S1 w w' es:=by
 obtain⟨d,hs⟩:=h.sim
 refine⟨⟨hs.tape.symm,hs.os.symm,hs.output.symm,dX hs.size,fun _ _ _ h=>h.elim,h.far⟩,fun x _ ⟨v,hv,hn,hw,hf⟩=>⟨v,Le.trans hs.jc (Le.at hv d),hn,hw.keep h.far,hf⟩,⟨hs.grow.size,hs.grow.kind⟩,P6 O hs h.far (af rfl),P6 O hs h.far (o5 rfl),fun e he=>?_⟩
 rcases h.ev e he with h1|⟨a,wr,rfl,h1,h2⟩
 ·exact af h1
 ·exact o5 ⟨a,wr,rfl,⟨a,rfl,h1⟩,h2⟩
variable {g:gq}
theorem LZ(h:BD3 C.c0 g w):BD3 C.cE g w:=⟨h.1,fun x=>let⟨g',h1,m,h2⟩:=h.2 x;⟨g',h1,m,G6 (fun _ _=>Kw) (fun _ _ _ h=>h) (fun _ _ h=>h) h2⟩⟩
theorem LY(h:BD2 C.c0 g w):BD2 C.cE g w:=⟨h.1,fun x=>let⟨g',h1,m,h2⟩:=h.2 x;⟨g',h1,m,G6 (fun _ _=>Kw) (fun _ _ _ h=>h) (fun _ _=>LZ) h2⟩⟩
theorem Yu(h:BD1 C.c0 g w):BD1 C.cE g w:=⟨h.1,h.2.1,fun x=>let⟨g',h1,m,h2⟩:=h.2.2 x;⟨g',h1,m,G6 (fun _ _=>Kw) (fun _ _ _ h=>h) (fun _ _=>LY) h2⟩⟩
theorem Yw(h:BK1 C.c0 g w):BK1 C.cE g w:=let⟨h0,g',h1,m,h2⟩:=h;⟨h0,g',h1,m,G6 (fun _ _=>Kw) (fun _ _ _ h=>h) (fun _ _=>Yu) h2⟩
theorem ME(hf:C.FB w)(h:RN C.c0 S1 g w):RN C.cE S1 g w:=let⟨h0,_,g',h1,m,h2⟩:=h;⟨h0,hf,g',h1,m,G6 (fun _ _=>Kw) (fun _ _ _ h=>h) (fun _ _=>Yw) h2⟩
theorem Zp{P:Program}{main:Bool}{I:qq->Prop}{R R':qq->qq->Prop}{D D':qq->qq->Array p6->Prop}{Stop Stop':gq->qq->Prop}(hI:∀w w',R' w w'->I w->I w')(hR:∀w w',R' w w'->R w w')(hD:∀w w' es,D w w' es->D' w w' es)(hDI:∀w w' es,D w w' es->I w->I w')(hS:∀g w,I w->Stop g w->Stop' g w) :
  ∀{n:Nat} {g:gq} {w:qq},I w->Goes P main R D Stop n g w->Goes P main R' D' Stop' n g w
 | 0,_,_,hi,h=>fun w₁ h₁=>hS _ _ (hI _ _ h₁ hi) (h w₁ (hR _ _ h₁))
 | n+1,g,w,hi,h=>by
  rcases h with h|⟨hs,h⟩
  ·exact af fun w₁ h₁=>hS _ _ (hI _ _ h₁ hi) (h w₁ (hR _ _ h₁))
  ·refine o5 ⟨hs,fun w₁ h₁=>?_⟩
   have:=h w₁ (hR _ _ h₁)
   have hi':=hI _ _ h₁ hi
   revert this
   cases stepG P main g w₁ <;> simp only [GStep.goes,imp_self]
   exact fun⟨d,x⟩=>⟨hD _ _ _ d,Zp hI hR hD hDI hS (hDI _ _ _ d hi') x⟩
theorem VR(O:C.Ok){w w':qq}(h:RB C.cE w w')(hf:C.FB w):C.FB w':=O.fbB _ _ h.keep hf
theorem Y1(O:C.Ok){n:Nat}(hf:C.FB w)(h:Goes C.P vp (RB C.c0) D0 (RN C.c0 S1) n g w):Goes C.P vp (RB C.cE) (DB C.cE S1) (RN C.cE S1) n g w:=
 Zp (I:=C.FB) (fun _ _ h hf=>VR O h hf) (fun _ _=>Kw) (fun _ _ _ h=>D0.db _ _ h) (fun _ _ _ h hf=>by rw [h.1];exact hf) (fun _ _ hf h=>ME hf h) hf h
theorem FK(O:C.Ok){s r:Nat}{tm:Bool}(hf:C.FB w):C.FB (w.shut C.Ch s r tm):=VR O (Nv (C:=C.cE) (sent:=S1) (w:=w) O.cfg (o:=.chan 0 #[] s7 s r tm)).2 hf
theorem LX(O:C.Ok)(h:BCl C g w):BG C.cE S1 g w:=⟨h.1,h.2.1,fun s r tm hc=>let⟨g₂,h1,h2,m,h3⟩:=h.2.2.2 s r tm hc;⟨g₂,h1,h2,m,Y1 O (FK O h.2.2.1) h3⟩⟩
theorem VC.Ok.cfg0(O:C.Ok):C.c0.Ok where
 hk:=O.hk
 parts:=O.parts (fun _ _=>False)
 neq:=O.neq
 ka:=fun i o h=>h.elim
 kb:=fun i o h=>h.elim
 msgB:=fun _ _ _ _ _ h=>h
 fbB:=fun _ _ _ _ h=>h
 postAt:=fun _ g w d=>O.postAt g w d
inductive BS|op|r0|k1|d1|qt
def BS.rk:BS->Nat
 | .op=>5|.r0=>4|.k1=>3|.d1=>2|.qt=>1
def BS.bt:BS->BT
 | .op=>.r0|.r0=>.r0|.k1=>.k1|.d1=>.d1|.qt=>.qt
def BS.df:BS->Nat
 | .d1|.qt=>1|_=>0
def BS.st:BS->Int
 | .qt=>0|_=>KK
variable (C) in
def V2:BS->Nat->Nat->gq->qq->Prop
 | .op,rb,dB,b,w=>dB=0/\(∃s r tm,w.heap[C.Ch]? = lp (.chan 0 #[] vp s r tm))/\∃n,rb=n+1/\Goes C.P vp (Wz C) (LF C) (BCl C) n b w
 | .qt,rb,dB,b,w=>(∃s r tm,w.heap[C.Ch]? = lp (.chan 0 #[] s7 s r tm))/\QuitsD C.P rb dB b
 | s,rb,dB,b,w=>dB=s.df/\(∃s r tm,w.heap[C.Ch]? = lp (.chan 0 #[] s7 s r tm))/\∃n,rb=n+1/\Goes C.P vp (RB C.c0) D0 (RS C.c0 S1 s.bt) n b w
variable (C) in
structure BI(T:Tree)(s:BS)(rb:Nat)(a b:gq)(w:qq)(t:bd):Prop where
 sa:∃v,Ct C.J2 w v/\VO C.P s7 C.J2 (StopA C) T a v
 sb:∃dB,C.cE.TI t w 0 dB/\V2 C s rb dB b w
 wg:D3 C.ty C.Wg w s.st 0
 rel:s≠.op->s≠.r0->C.FB w/\∃r,RI C.k C.Wg t r
 fb:s≠.op->C.FB w
 fa:C.Fa w
theorem Pj(h:Ht C.J2 w w'){o:Obj}(ho:w.heap[C.Ch]? = lp o)(hk:kindOf o=none):w'.heap[C.Ch]? = lp o:=h.obj C.Ch o (o5 (o5 (af rfl))) ho hk
theorem V2.rely{s:BS}{rb dB:Nat}{b:gq}(h:V2 C s rb dB b w)(hm:Ht C.J2 w w'):V2 C s rb dB b w':=by
 cases s with
 | op=>
  obtain⟨h0,⟨s,r,tm,hc⟩,n,h1,h2⟩:=h
  exact⟨h0,⟨s,r,tm,Pj hm hc rfl⟩,n,h1,Goes.rely (R:=Wz C) (fun _ _ _ h k=>h.trans k) h2 hm.rbv⟩
 | qt=>
  obtain⟨⟨s,r,tm,hc⟩,h2⟩:=h
  exact⟨⟨s,r,tm,Pj hm hc rfl⟩,h2⟩
 | _=>
  obtain⟨h0,⟨s,r,tm,hc⟩,n,h1,h2⟩:=h
  exact⟨h0,⟨s,r,tm,Pj hm hc rfl⟩,n,h1,Goes.rely rbT h2 hm.rb0⟩
theorem V2.status{s:BS}{rb dB:Nat}{b:gq}(h:V2 C s rb dB b w):b.status=.running∨b.status=.finished:=by
 cases s with
 | op=>obtain⟨_,_,n,_,h2⟩:=h;exact af (h2.running (fun _ _ h=>h.1) w (Wz.refl _))
 | qt=>exact h.2.status
 | _=>obtain⟨_,_,n,_,h2⟩:=h;exact af (h2.running (fun _ _ h=>RS.running h) w (RB.refl _ _))
theorem Ab6(O:C.Ok){dA dB:Nat}(h:C.cE.TI t w dA dB)(Di:w.heap.size<=w'.heap.size){es:Array p6}(he:∀e∈es,RJ C.J2 w'.heap.size e)(fn:FuncId)(pos:String):C.cE.TI (t++MemOp.ofEvents 0 fn pos es) w' dA dB:=by
 have h':C.cE.TI t w' dA dB:=TI.move h (fun _ _ h=>h) (fun _ _ h=>h) Di
 have hob:∀r,C.J2 (.obj r)->r=C.Ch:=fun r hr=>by
  rcases hr with⟨a,e,_⟩|⟨a,e,_⟩|e|e|⟨a,e,_⟩
  ·cases e
  ·cases e
  ·injection e
  ·obtain⟨a,e',_⟩:=O.shun _ e;cases e'
  ·cases e
 refine TI.appA (O.parts _) O.hk h' (.refl _) (fun op Bt=>B6 Bt) (fun op Bt b hb _=>?_) ?_ (fun op Bt=>?_)
 ·obtain⟨e,hx,rfl⟩:=Conc.mem_ofEvents Bt
  have hK:=he e hx
  obtain⟨loc,wr,sy⟩:=e
  cases loc with
  | cell a=>
   left
   have:b.loc=.cell a:=by cases wr <;> cases sy <;> simp [MemAct.ofEvent,MemAct.touch?] at hb <;> subst hb <;> rfl
   show ¬C.J2 b.loc
   rw [this];exact hK.1
  | obj r=>
   have hl:b.loc=.obj r:=by cases wr <;> cases sy <;> simp [MemAct.ofEvent,MemAct.touch?] at hb <;> subst hb <;> rfl
   by_cases hJ:C.J2 (.obj r)
   ·right;right
    rcases hK.1 with h1|⟨h1,h2⟩
    ·exact absurd hJ h1
    ·simp only at h1 h2
     subst h1 h2
     simp [MemAct.ofEvent,MemAct.touch?] at hb
     subst hb
     exact⟨by rw [hob r hJ],rfl⟩
   ·left
    show ¬C.J2 b.loc
    rw [hl];exact hJ
  | mark m=>cases m <;> first|exact hK.elim|(cases wr <;> cases sy <;> simp [MemAct.ofEvent,MemAct.touch?] at hb)
  | output=>exact hK.elim
  | goroutines=>exact hK.elim
 ·rw [Deaf_own,deafBehind_still fun e hx=>?_]
  ·exact h.dA
  ·exact Kx7
 ·exact Rvv
end
abbrev Mu:=Nat×(Tree×(Nat×Nat))
abbrev M9:Mu->Mu->Prop:=Prod.Lex (· < ·) (Prod.Lex Tree.Sub R6)
theorem OF:WellFounded M9:=(Prod.lex ⟨_,Nat.lt_wfRel.wf⟩ (Prod.lex ⟨_,Tree.wf⟩ ⟨_,FN⟩)).wf
section
variable {C:VC} {w w' v:qq} {t:bd} {a b:gq} {T:Tree} {s:BS} {rb:Nat}
def JE(C:VC)(μ:Mu)(a b:gq)(w:qq)(t:bd):Prop:=∃μ0,μ=(0,.leaf,μ0)/\J C.cE [()] μ0 a b w t
def JB(C:VC)(μ:Mu)(a b:gq)(w:qq)(t:bd):Prop:=∃T s rb,μ=(1,T,(s.rk,rb))/\BI C T s rb a b w t
theorem Ct.setJ{J:Loc->Prop}(h:Ct J w v){ad:Addr}(hJ:J (.cell ad))(hs:ad.spot=none)(x:tj):Ct J (w.setCell ad x) v:=by
 refine⟨by rw [size_setCell];exact h.size,fun i=>?_,h.os,h.output,h.tape,h.drawn⟩
 unfold Alike
 rw [heap_setCell]
 by_cases hi:i=ad.block
 ·subst hi
  rw [aQ rfl]
  have key:∀j,¬J (.cell ⟨ad.block,j,none⟩)->ad.off≠j:=fun j hj e=>hj (by
   obtain⟨a1,a2,a3⟩:=ad
   simp only at hs e ⊢
   subst hs e
   exact hJ)
  rcases h.like ad.block with e|⟨c,c',e,fz,h1,h2,h3,h4⟩|⟨hJo,o,o',h1,h2,h3,h4⟩|⟨⟨o4,h4,n4⟩,h2⟩
  ·cases ho:w.heap[ad.block]? with
   | none=>exact af (by rw [e,ho];rfl)
   | some o=>
    cases o with
    | cells c t fz=>
     refine o5 (af ⟨c.setIfInBounds ad.off x,c,t,fz,by simp [hs],by rw [e];exact ho,Ae,fun j hj=>?_⟩)
     rw [aD (key j hj)]
    | _=>exact af (by rw [e,ho];rfl)
  ·refine o5 (af ⟨c.setIfInBounds ad.off x,c',e,fz,by rw [h1];simp [hs],h2,by simpa using h3,fun j hj=>?_⟩)
   rw [aD (key j hj)]
   exact h4 j hj
  ·refine o5 (o5 (af ⟨hJo,o,o',?_,h2,h3,h4⟩))
   rw [h1]
   cases o <;> first|rfl|cases h3
  ·refine o5 (o5 (o5 ⟨⟨o4,?_,n4⟩,h2⟩))
   rw [h4]
   exact S98
 ·rw [aO hi]
  exact h.like i
theorem Ct.putJ{J:Loc->Prop}(h:Ct J w v){r:Nat}{o x:Obj}(hJ:J (.obj r))(ho:w.heap[r]? = lp o)(hk:o.isChan=s7)(hx:x.isChan=s7):Ct J { w with heap:=w.heap.setIfInBounds r x } v:=by
 refine⟨by simp [h.size],fun i=>?_,h.os,h.output,h.tape,h.drawn⟩
 unfold Alike
 refine M5k ?_
 by_cases hi:r=i
 ·subst hi
  have Cg:=(aF.1 ho).1
  rw [aQ rfl,aQ Cg]
  rcases h.like r with e|⟨c,c',e,fz,h1,h2,h3,h4⟩|⟨hJo,p,p',h1,h2,h3,h4⟩|⟨⟨o4,h4,n4⟩,h2⟩
  ·exact o5 (o5 (af ⟨hJ,x,o,rfl,by rw [e];exact ho,hx,hk⟩))
  ·rw [ho] at h1
   obtain rfl:=aC h1
   cases hk
  ·exact o5 (o5 (af ⟨hJ,x,p',rfl,h2,hx,h4⟩))
  ·rw [ho] at h4
   obtain rfl:=aC h4
   exfalso
   cases o <;> first|exact n4 trivial|cases hk
 ·rw [aO hi]
  exact h.like i
theorem BI.end(O:C.Ok)(h:BI C .leaf s rb a b w t):∃μ0,J C.cE [()] μ0 a b w t:=by
 obtain⟨v,hs,hn,Dk⟩:=h.sa
 obtain⟨hF,hA⟩:=Dk v.drawn
 obtain⟨dB,Hp,Gs⟩:=h.sb
 have hmsg:∀x∈S1,C.cE.Msg x.1 x.2 w:=fun x _=>⟨v,Ct.le hs,hn.1,h.fa,hF⟩
 have hG:Goes C.P s7 (RA C.cE S1) (DA C.cE) (WN C.cE S1) 0 a w:=fun w₁ hr=>hA w₁ (hr.wg ⟨_,_,h.wg⟩)
 have D1:a.status=.running:=(hA w ⟨_,_,h.wg⟩).1
 cases s with
 | op=>
  obtain⟨rfl,hc,n,rfl,hgo⟩:=Gs
  exact⟨_,o5 (o5 ⟨[],S1,1,n+1,rfl,rfl,hc,h.wg,Hp,af ⟨0,rfl,hG⟩,af ⟨n,rfl,G6 (fun _ _ h=>YX O h) (fun _ _ _ h=>h.db O) (fun _ _ h=>LX O h) hgo⟩,Ab,hmsg⟩)⟩
 | qt=>
  obtain⟨hc,hq⟩:=Gs
  exact⟨_,o5 (af ⟨S1,.rc,.qt,1,rb,rfl,rfl,hc,⟨0,0,rfl,h.wg⟩,⟨dB,Hp,o5 ⟨rfl,hq⟩⟩,af ⟨0,rfl,hG⟩,fun _=>Ab,hmsg,fun _=>h.rel Ae Ae⟩)⟩
 | r0=>
  obtain⟨rfl,hc,n,rfl,hgo⟩:=Gs
  exact⟨_,o5 (af ⟨S1,.rc,.r0,1,n+1,rfl,rfl,hc,⟨KK,0,rfl,h.wg⟩,⟨0,Hp,af ⟨Ae,rfl,n,rfl,Y1 O (h.fb Ae) hgo⟩⟩,af ⟨0,rfl,hG⟩,fun _=>Ab,hmsg,fun e=>absurd rfl e⟩)⟩
 | k1=>
  obtain⟨rfl,hc,n,rfl,hgo⟩:=Gs
  exact⟨_,o5 (af ⟨S1,.rc,.k1,1,n+1,rfl,rfl,hc,⟨KK,0,rfl,h.wg⟩,⟨0,Hp,af ⟨Ae,rfl,n,rfl,G6 (fun _ _ h=>Kw h) (fun _ _ _ h=>h) (fun _ _ h=>Yw h) hgo⟩⟩,af ⟨0,rfl,hG⟩,fun _=>Ab,hmsg,fun _=>h.rel Ae Ae⟩)⟩
 | d1=>
  obtain⟨rfl,hc,n,rfl,hgo⟩:=Gs
  exact⟨_,o5 (af ⟨S1,.rc,.d1,1,n+1,rfl,rfl,hc,⟨KK,0,rfl,h.wg⟩,⟨1,Hp,af ⟨Ae,rfl,n,rfl,G6 (fun _ _ h=>Kw h) (fun _ _ _ h=>h) (fun _ _ h=>Yu h) hgo⟩⟩,af ⟨0,rfl,hG⟩,fun _=>Ab,hmsg,fun _=>h.rel Ae Ae⟩)⟩
theorem BI.runA(h:BI C T s rb a b w t):a.status=.running:=by
 obtain⟨v,hs,hf⟩:=h.sa
 cases T with
 | leaf=>exact((hf.2 v.drawn).2 w ⟨_,_,h.wg⟩).1
 | node f=>exact hf.2.1
theorem TW{es:Array p6}{J:Loc->Prop}{B:Nat}(h:∀e∈es,RJ J B e)(hk:0<C.k)(fn:FuncId)(pos:String):∀op∈MemOp.ofEvents 0 fn pos es,op.g≠C.k/\op.act≠.mark (.release (Gq C.Wg)):=by
 intro op Bt
 obtain⟨e,he,rfl⟩:=Conc.mem_ofEvents Bt
 refine⟨by show 0≠C.k;omega,?_⟩
 have hK:=h e he
 obtain⟨loc,wr,sy⟩:=e
 cases loc with
 | mark m=>cases m <;> first|exact hK.elim|(cases wr <;> cases sy <;> simp [MemAct.ofEvent])
 | output=>exact hK.elim
 | goroutines=>exact hK.elim
 | cell a=>cases wr <;> cases sy <;> simp [MemAct.ofEvent]
 | obj r=>cases wr <;> cases sy <;> simp [MemAct.ofEvent]
theorem BI.stepA(O:C.Ok){f:Nat->Tree}(h:BI C (.node f) s rb a b w t):∃a' w' es,stepG C.P s7 a w=.go a' w' es/\∃d,BI C (f d) s rb a' (woken C.P a a' w' b) w' (t++MemOp.ofEvents 0 a.frame.fn a.frame.place es):=by
 obtain⟨v,hs,hn,D1,hf⟩:=h.sa
 obtain⟨dB,Hp,Gs⟩:=h.sb
 obtain⟨a',v',Co,Bo⟩:=hf v.drawn
 obtain⟨w',es,h1,h2,h3,h4⟩:=Co.all w hs
 refine⟨a',w',es,h1,v.drawn,⟨v',h2,Bo⟩,⟨dB,Ab6 O Hp h3.size h4 _ _,?_⟩,Vc h3 h.wg,fun e1 e2=>?_,fun e1=>?_,h.fa.keep h3.far⟩
 ·have hsb':=Gs.rely h3
  rw [Ep hsb'.status]
  exact hsb'
 ·obtain⟨h5,r,h6⟩:=h.rel e1 e2
  exact⟨O.fb _ _ h3 h5,r,h6.appOther (TW h4 O.hk _ _)⟩
 ·exact O.fb _ _ h3 (h.fb e1)
theorem Ab7(O:C.Ok){dA dB:Nat}(h:C.cE.TI t w dA dB){es:Array p6}(D:LF C w w' es)(fn:FuncId)(pos:String):C.cE.TI (t++MemOp.ofEvents C.k fn pos es) w' dA dB:=U8 O.cfg h (D.db O) fn pos
theorem BI.stepB(O:C.Ok)(h:BI C T s rb a b w t)(D1:b.status=.running):∃b' w' es,stepG C.P vp b w=.go b' w' es/\∃s' rb',R6 (s'.rk,rb') (s.rk,rb)/\BI C T s' rb' (woken C.P b b' w' a) b' w' (t++MemOp.ofEvents C.k b.frame.fn b.frame.place es):=by
 have hra:=h.runA
 have hwk:∀b' w',woken C.P b b' w' a=a:=fun b' w'=>Ep (af hra)
 obtain⟨v,hs,hf⟩:=h.sa
 obtain⟨dB,Hp,Gs⟩:=h.sb
 have hIs:=h.wg
 have priv:∀{s:BS},(s=.r0∨s=.k1∨s=.d1)->∀{n:Nat},(∃x y z,w.heap[C.Ch]? = lp (.chan 0 #[] s7 x y z))->C.cE.TI t w 0 s.df->D3 C.ty C.Wg w s.st 0->(s≠.op->s≠.r0->C.FB w/\∃r,RI C.k C.Wg t r)->(s≠.op->C.FB w) ->
   (∀w₁,RB C.c0 w w₁->∃g' w' es,stepG C.P vp b w₁=.go g' w' es/\D0 w₁ w' es/\Goes C.P vp (RB C.c0) D0 (RS C.c0 S1 s.bt) n g' w')->∃b' w' es,stepG C.P vp b w=.go b' w' es/\∃s' rb',R6 (s'.rk,rb') (s.rk,n+1+1)/\BI C T s' rb' (woken C.P b b' w' a) b' w' (t++MemOp.ofEvents C.k b.frame.fn b.frame.place es):=by
  intro s hs3 n hch Hp hIs hrel hfb Co
  obtain⟨g',w1,es,Dk,hD,hG⟩:=Co w (RB.refl _ _)
  obtain⟨e1,e2⟩:w1=w/\es=#[]:=⟨hD.1,hD.2⟩
  subst e1 e2
  refine⟨g',_,#[],Dk,s,n+1,.right _ Ab,?_⟩
  rw [hwk]
  have e0:t++MemOp.ofEvents C.k b.frame.fn b.frame.place #[]=t:=Qd
  rw [e0]
  refine⟨⟨v,hs,hf⟩,⟨s.df,Hp,?_⟩,hIs,hrel,hfb,h.fa⟩
  rcases hs3 with rfl|rfl|rfl <;> exact⟨rfl,hch,n,rfl,hG⟩
 cases s with
 | op=>
  obtain⟨rfl,⟨x,y,z,hc⟩,n,rfl,hgo⟩:=Gs
  rcases hgo.cases with E5|⟨n',rfl,Co⟩
  ·obtain⟨_,hmw,hfb0,hcl⟩:=E5 w (Wz.refl _)
   obtain⟨g₂,h1,h2,m,h3⟩:=hcl x y z hc
   have hc':(w.shut C.Ch x y z).heap[C.Ch]? = lp (.chan 0 #[] s7 x y z):=Nw (Ax hc)
   refine⟨g₂,_,_,h1,.r0,m+1,.left _ _ Ad,?_⟩
   rw [hwk]
   refine⟨⟨v,hs.putJ (o5 (o5 (af rfl))) hc rfl rfl,hf⟩,⟨0,AN O.cfg Hp (show Jy w (w.shut C.Ch x y z) from Ub hc rfl) (Ax hc') _ _,rfl,⟨x,y,z,hc'⟩,m,rfl,h3⟩,?_,fun _ e=>absurd rfl e,fun _=>FK O hfb0,h.fa.keep (Nv (C:=C.cE) (sent:=S1) (w:=w) O.cfg (o:=.chan 0 #[] s7 x y z)).2.keep.far⟩
   have e:(w.shut C.Ch x y z).heap[C.Wg]? = w.heap[C.Wg]?:=Gk O.neq
   unfold D3 at hIs ⊢
   rw [e]
   exact hIs
  ·obtain⟨g',w1,es,Dk,D,hG⟩:=Co w (Wz.refl _)
   obtain⟨d,hsd⟩:=D.sim
   refine⟨g',w1,es,Dk,.op,n'+1,.right _ Ab,?_⟩
   rw [hwk]
   refine⟨⟨v.at d,hsd.jc.trans (hs.at d),hf.at d⟩,⟨0,Ab7 O Hp D _ _,rfl,⟨x,y,z,by rw [P6 O hsd D.far (o5 rfl)];exact hc⟩,n',rfl,hG⟩,?_,fun e=>absurd rfl e,fun e=>absurd rfl e,h.fa.keep D.far⟩
   unfold D3 at hIs ⊢
   rw [P6 O hsd D.far (af rfl)]
   exact hIs
 | r0=>
  obtain⟨rfl,hch,n,rfl,hgo⟩:=Gs
  rcases hgo.cases with E5|⟨n',rfl,Co⟩
  rotate_left
  ·exact priv (af rfl) hch Hp hIs h.rel h.fb Co
  have hfb:=h.fb Ae
  obtain⟨_,_,g',hstp,m,hG⟩:=E5 w (RB.refl _ _)
  refine⟨g',w,_,hstp,.k1,m+1,.left _ _ Ad,?_⟩
  rw [hwk]
  exact⟨⟨v,hs,hf⟩,⟨0,X9 O.cfg Hp (.refl _) (Rz hIs) (fun e he=>by simp at he;exact o5 (o5 (o5 he))) _ _,rfl,hch,m,rfl,hG⟩,hIs,fun _ _=>⟨hfb,_,RI.new Hp.dB _ _⟩,fun _=>hfb,h.fa⟩
 | k1=>
  obtain⟨rfl,hch,n,rfl,hgo⟩:=Gs
  rcases hgo.cases with E5|⟨n',rfl,Co⟩
  rotate_left
  ·exact priv (o5 (af rfl)) hch Hp hIs h.rel h.fb Co
  obtain⟨_,g',hstp,m,hG⟩:=E5 w (RB.refl _ _)
  obtain⟨hfb,r,hR⟩:=h.rel Ae Ae
  refine⟨g',w,_,hstp,.d1,m+1,.left _ _ Ad,?_⟩
  rw [hwk]
  exact⟨⟨v,hs,hf⟩,⟨1,X9 O.cfg Hp (.refl _) (Rz hIs) (fun e he=>by simp at he;exact o5 (af he)) _ _,rfl,hch,m,rfl,hG⟩,hIs,fun _ _=>⟨hfb,r,hR.appOwn _ _ _ (fun e he=>by simp at he;subst he;simp [Pt]) fun j e he=>af (by have:=dJ he;simp at this;subst this;rfl)⟩,fun _=>hfb,h.fa⟩
 | d1=>
  obtain⟨rfl,⟨x,y,z,hc⟩,n,rfl,hgo⟩:=Gs
  rcases hgo.cases with E5|⟨n',rfl,Co⟩
  rotate_left
  ·exact priv (o5 (o5 rfl)) ⟨x,y,z,hc⟩ Hp hIs h.rel h.fb Co
  obtain⟨_,hK,_⟩:=E5 w (RB.refl _ _)
  obtain⟨hfb,r,hR⟩:=h.rel Ae Ae
  obtain⟨g',hstp,q,hqd⟩:=hK hIs
  refine⟨g',_,_,hstp,.qt,q,.left _ _ Ad,?_⟩
  rw [hwk]
  have hkp:Gf C.KA w (w.setCell (Gq C.Wg) (.int .u64 0)):=Hv _ _ fun i o k=>k.1
  refine⟨⟨v,hs.setJ (o5 (af ⟨_,rfl,rfl⟩)) rfl _,hf⟩,⟨1,X9 O.cfg Hp (Uc _ _) (by rw [Hj];exact Rz hIs) (CJ _) _ _,⟨x,y,z,by rw [G7 _ _ (by exact bW O.neq)];exact hc⟩,hqd⟩,Jp hIs 0,fun _ _=>⟨O.fbB _ _ hkp hfb,r,Rc (C:=C.cE) hR Hp.dB (o5 (o5 (af rfl))) _ _⟩,fun _=>O.fbB _ _ hkp hfb,h.fa.keep hkp.far⟩
 | qt=>
  obtain⟨hch,hqd⟩:=Gs
  cases rb with
  | zero=>rw [hqd.1] at D1;cases D1
  | succ m=>
   rcases hqd with⟨hf',_⟩|⟨_,g',es,hm,hstp,hq'⟩
   ·rw [hf'] at D1;cases D1
   ·refine⟨g',w,es,hstp w,.qt,m,.right _ Ab,?_⟩
    rw [hwk]
    refine⟨⟨v,hs,hf⟩,⟨_,?_,hch,hq'⟩,hIs,fun e1 e2=>⟨(h.rel e1 e2).1,?_⟩,fun e1=>h.fb e1,h.fa⟩
    ·refine TI.appB (O.parts _) O.hk Hp (.refl w) (fun op Bt=>B6 Bt) (fun op Bt x hx _=>?_) ?_ (fun op Bt=>?_)
     ·exact Rvz
     ·rw [Deaf_own];exact aG (deafBehind · es) Hp.dB
     ·exact Xls
    ·obtain⟨r,hR⟩:=(h.rel e1 e2).2
     exact Tji
end
end Go.Pair

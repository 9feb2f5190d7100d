import Derived.Test.YtjoblhlkfmeckaaGreatDoorQ07
import Derived.Test.YtjoblhlkfmeckaaGreatDoorQ05
import Derived.Test.YtjoblhlkfmeckaaGreatDoorHWait
import Derived.Test.YtjoblhlkfmeckaaGreatDoorQ03
import Derived.Conc.SmallLaws
import Derived.Conc.CompanyMem
set_option linter.unusedVariables false
set_option linter.unusedSimpArgs false
open Go renaming World → qq,Value → tj,FuncId → du,Program → me,Oper → gz,Goroutine → gq,TypeId → s8,Frame → qg,yielded → iw
open Option renaming some → lp
open Go.Region renaming wanted → br
open Bool renaming true → s7,false → vp
open Go.GStep renaming after → fw
open Go.Obj renaming cells → ye
theorem Aod{p:Prop}(h:p:=by
 unfold World.cell?
 rw [Cr]
 cases W.heap[a.block]? with
 | none=>rfl
 | some o=>cases o <;> rfl):p:=h
theorem Be5{p:Prop}(h:p:=by
 have h1:=h (W.at w.drawn) (by rw [Pz,←e];rfl) hF
 exact fun b k z hb hk hc=>(h1 b k z hb hk hc).rel ⟨W.drawn,rfl⟩):p:=h
namespace Go.Pair
open Go Go.Conc
structure Da where
 far:Nat->Obj->Prop
 post:tj->qq->Prop
def Da.Far(T:Da)(W:qq):Prop:=∀(i:Nat) (o:Obj),W.heap[i]? = lp o->¬B7 o->T.far i o
def Da.real(T:Da)(x:tj)(W:qq):Prop:=T.Far W/\T.post x (Cf W)
def QR(T:Da)(Q:Exit->Act->qq->(Loc->Prop)->Prop)(e:Exit)(a:Act)(W:qq)(S:Loc->Prop):Prop:=T.Far W/\Q e a (Cf W) S
def EF(P:me)(T:Da)(Shun:Loc->Prop)(g:gq)(w:qq):Prop:=∀W,w=Cf W->T.Far W->EA P T.real Shun g W
def Jq(P:me)(T:Da)(fn:du)(c:Code)(Q:Exit->Act->qq->(Loc->Prop)->Prop)(a:Act)(w:qq)(Shun:Loc->Prop):Prop:=∀W,w=Cf W->T.Far W->AW P T.real fn c (QR T Q) a W Shun
def Gx(P:me)(T:Da)(fn:du)(ops:Array gz)(l:List Nat)(Q:Exit->Act->qq->(Loc->Prop)->Prop)(a:Act)(w:qq)(Shun:Loc->Prop):Prop:=∀W,w=Cf W->T.Far W->Xs P T.real fn ops l (QR T Q) a W Shun
def De(P:me)(T:Da)(f:du)(args:Array tj)(Shun:Loc->Prop)(w:qq)(Cd:tj->qq->(Loc->Prop)->Prop):Prop:=∀W,w=Cf W->T.Far W->Pc P T.real f args Shun W fun x W' S=>T.Far W'/\Cd x (Cf W') S
section
variable {P:me} {T:Da} {fn:du} {Q:Exit->Act->qq->(Loc->Prop)->Prop} {a:Act} {w W W':qq} {Shun:Loc->Prop} {Bs:Nat->Prop}
theorem Da.Far.keep(h:T.Far W)(k:∀(i:Nat) (o:Obj),W'.heap[i]? = lp o->¬B7 o->W.heap[i]? = lp o):T.Far W':=fun i o e n=>h i o (k i o e n) n
theorem Pz(W:qq)(d:Nat):Cf (W.at d)=(Cf W).at d:=rfl
theorem Tp(W:qq)(a:Addr):(Cf W).cell? a=W.cell? a:=by
 exact Aod
theorem Mb{v:qq}(h:Cq Bs W v):Cq Bs (Cf W) v:=by
 refine⟨h.size.trans (Cw W).symm,fun i=>?_,h.os,h.output⟩
 rw [Cr]
 rcases h.like i with⟨hb,e,hk⟩|⟨hb,c,e,fz,hw,hv⟩|⟨hb,⟨o,ho,hk⟩,hv⟩|⟨hb,⟨o,ho,hk⟩,hv⟩
 ·refine .inl ⟨hb,?_,fun o ho=>?_⟩
  ·cases hw:W.heap[i]? with
   | none=>rw [e,hw];rfl
   | some o=>rw [e,hw,bA,Gu (hk o hw)]
  ·obtain⟨x,hx,rfl⟩:=aJ.1 ho
   rw [Gu (hk x hx)]
   exact hk x hx
 ·exact .inr (.inl ⟨hb,c,e,fz,by rw [hw];rfl,hv⟩)
 ·exact .inr (.inr (.inl ⟨hb,⟨dead,by rw [ho,bA,It hk],fun h=>h⟩,hv⟩))
 ·refine .inr (.inr (.inr ⟨hb,⟨o,?_,hk⟩,hv⟩))
  rw [ho,bA]
  cases o <;> first|rfl|cases hk
theorem Wa(h:Kept Bs W W'):Kept Bs (Cf W) (Cf W'):=by
 refine⟨by rw [Cw,Cw];exact h.grow,fun i hi=>by rw [Cr,Cr,h.keep i hi],h.same,h.tape,fun i o ho hn=>?_⟩
 rw [Cr] at ho ⊢
 obtain⟨x,hx,rfl⟩:=aJ.1 ho
 by_cases hk:B7 x
 ·rw [Gu hk] at hn
  exact absurd hk hn
 ·rw [h.far i x hx hk]
  rfl
theorem CB{i:Nat}(h:∃c e fz,(Cf W).heap[i]? = lp (ye c e fz)):∃c e fz,W.heap[i]? = lp (ye c e fz):=let⟨c,e,fz,h⟩:=h;⟨c,e,fz,J6 h trivial⟩
theorem Eh(h:Q .normal a w Shun):Jq P T fn .skip Q a w Shun:=fun W e hF=>QT ⟨hF,e▸h⟩
theorem I4(h:Q .ret a w Shun):Jq P T fn .ret Q a w Shun:=fun W e hF=>VF ⟨hF,e▸h⟩
theorem QU{id:Nat}(h:Q (.exit id) a w Shun):Jq P T fn (.exit id) Q a w Shun:=fun W e hF=>QQ ⟨hF,e▸h⟩
theorem A9{x y:Code}(h:Jq P T fn x (Cn (Jq P T fn y Q) Q) a w Shun):Jq P T fn (.seq x y) Q a w Shun:=fun W e hF=>VG (Qo (h W e hF) fun e' a' W' S q=>by
 cases e' with
 | normal=>exact q.2 W' rfl q.1
 | _=>exact q)
theorem Cy{c:Operand}{x y:Code}{t:Bool}(hc:a.eval c=.bool t)(h:Jq P T fn (if t then x else y) Q a w Shun):Jq P T fn (.cond c x y) Q a w Shun:=fun W e hF=>QP hc (h W e hF)
theorem Ws{id:Nat}{c:Code}(h:Jq P T fn c (Be id Q) a w Shun):Jq P T fn (.block id c) Q a w Shun:=fun W e hF=>KM (Qo (h W e hF) fun e' a' W' S q=>by
 cases e' with
 | exit i=>
  obtain⟨q1,q2⟩:=q
  simp only [Be] at q2 ⊢
  split
  ·rename_i hi;rw [aQ hi] at q2;exact⟨q1,q2⟩
  ·rename_i hi;rw [aO hi] at q2;exact⟨q1,q2⟩
 | _=>exact q)
theorem QW{c:Code}{I:Nat->Act->qq->(Loc->Prop)->Prop}(hr:∀n a w S,I n a w S->Jq P T fn c (Cn (fun a w S=>∃m,m<n/\I m a w S) Q) a w S){n:Nat}(h:I n a w Shun):Jq P T fn (.loop c) Q a w Shun:=fun W e hF=>
 QS (I:=fun n a W S=>T.Far W/\I n a (Cf W) S) (fun n a W S ⟨hF,hI⟩=>Qo (hr n a _ S hI W rfl hF) fun e' a' W' S q=>by
  cases e' with
  | normal=>obtain⟨q1,m,hm,q2⟩:=q;exact⟨m,hm,q1,q2⟩
  | _=>exact q) (n:=n) ⟨hF,e▸h⟩
theorem EU{id:Nat}{ops:Array gz}(h:Gx P T fn ops (List.range ops.size) Q a w Shun):Jq P T fn (.region id ops vp) Q a w Shun:=fun W e hF=>ET (h W e hF)
theorem Ba{ops:Array gz}(h:Q .normal a w Shun):Gx P T fn ops [] Q a w Shun:=fun W e hF=>OU ⟨hF,e▸h⟩
theorem Dd{ops:Array gz}{i:Nat}{l:List Nat}{o:gz}(ho:ops[i]? = lp o)(hw:br o (iw ops a.tmps)=vp)(h:Gx P T fn ops l Q (a.put o.dst undef) w Shun):Gx P T fn ops (i :: l) Q a w Shun:=fun W e hF=>Vq ho hw (h W e hF)
theorem Cc{ops:Array gz}{i:Nat}{l:List Nat}{o:gz}{f:du}{args:Array Operand}{ats:Array s8}{Cd:tj->qq->(Loc->Prop)->Prop}(ho:ops[i]? = lp o)(hw:br o (iw ops a.tmps)=s7)(Bt:o.op=.call { callee:=.value (.func f),args,argTypes:=ats })(Gh:De P T f (args.map a.eval) Shun w Cd)(Bo:∀v w' S,Cd v w' S->Gx P T fn ops l Q (a.put o.dst v) w' S):Gx P T fn ops (i :: l) Q a w Shun:=
 fun W e hF=>JA ho hw Bt (Gh W e hF) fun v W' S q=>Bo v _ S q.2 W' rfl q.1
theorem FU{ops:Array gz}{l:List Nat}(h:Gx P T fn ops l Q a w Shun)(d:Nat):Gx P T fn ops l Q a (w.at d) Shun:=fun W e hF=>by
 exact Be5
theorem Vd{c:Code}(h:Jq P T fn c Q a w Shun)(d:Nat):Jq P T fn c Q a (w.at d) Shun:=fun W e hF=>by
 exact Be5
variable {S:Env}
theorem Xu{ops:Array gz}{i:Nat}{l:List Nat}{o:gz}(ho:ops[i]? = lp o)(hw:br o (iw ops a.tmps)=s7)(hT:Sj P S fn o)(Ga:S.reg fn a.tmps)(hS1:∀a,Shun (.cell a)->Bs a.block)(hS2:∀r,Shun (.obj r)->Bs r)(Ee:∀i,Bs i->∃c e fz,w.heap[i]? = lp (ye c e fz)){R:tj->qq->Prop}(H:∀v,Cq Bs w v->∃x v',((execOp a.eval o).run P v=.ok (.value x) v'∨((execOp a.eval o).run P v=.ok .skip v'/\x=undef))/\R x v')(Bo:∀x w' v',Kept Bs w w'->Cq Bs w' v'->R x v'->Gx P T fn ops l Q (a.put o.dst x) w' Shun):Gx P T fn ops (i :: l) Q a w Shun:=by
 rintro W rfl hF
 exact TY (R:=R) ho hw hT Ga hS1 hS2 (fun i hi=>CB (Ee i hi)) (fun v hv=>H v (Mb hv)) fun x W' v' hk hs hR=>Bo x _ v' (Wa hk) (Mb hs) hR W' rfl (hF.keep hk.far)
theorem D6{f:du}{args:Array tj}{A B:tj->qq->(Loc->Prop)->Prop}(h:De P T f args Shun w A)(hab:∀v w' S,A v w' S->B v w' S):De P T f args Shun w B:=fun W e hF=>by
 obtain⟨fc,c,h1,h2,h3,h4⟩:=h W e hF
 exact⟨fc,c,h1,h2,h3,fun fr cs hn=>h4 fr cs fun v w' S q=>hn v w' S ⟨q.1,hab _ _ _ q.2⟩⟩
theorem GS{f:du}{args:Array tj}{A:tj->qq->(Loc->Prop)->Prop}(h:De P T f args Shun w A)(d:Nat):De P T f args Shun (w.at d) A:=fun W e hF=>by
 obtain⟨fc,c,h1,h2,h3,h4⟩:=h (W.at w.drawn) (by rw [Pz,←e];rfl) hF
 exact⟨fc,c,h1,h2,h3,fun fr cs hn=>(h4 fr cs hn).rel ⟨W.drawn,rfl⟩⟩
theorem Rp{f:du}{args:Array tj}{R:tj->qq->Prop}(h:∀(Post:tj->qq->Prop) W,w=Cf W->Pc P Post f args Shun W fun x W' Sh=>Sh=Shun/\Kept Bs W W'/\∃v',Cq Bs W' v'/\R x v'):De P T f args Shun w fun x w' Sh=>Sh=Shun/\Kept Bs w w'/\∃v',Cq Bs w' v'/\R x v':=by
 rintro W rfl hF
 obtain⟨fc,c,h1,h2,h3,h4⟩:=h T.real W rfl
 refine⟨fc,c,h1,h2,h3,fun fr cs hn=>h4 fr cs ?_⟩
 rintro x W' Sh ⟨rfl,hk,v',hs,hR⟩
 exact hn _ _ _ ⟨hF.keep hk.far,rfl,Wa hk,v',Mb hs,hR⟩
theorem Ho{f:du}{Hz:Func}{c:Code}{args:Array tj}{Cd:tj→qq→(Loc→Prop)→Prop}(hf:P.funcs[f]? = lp Hz)(Fo:(Hz.name == "runtime.NumGoroutine")=vp)(hbody:Hz.body=lp c)(h:Jq P T f c (fun e a w' S=>(e=.normal∨e=.ret)∧a.defers = []∧∃v,(∀u:qq,(∀x,u.cell? x=w'.cell? x)→(results Hz a.tmps).run P u=.ok v u)∧(∀u:qq,∀e∈(results Hz a.tmps).events P u #[],(∀x,u.cell? x=w'.cell? x)→EvL S w'.heap.size e)∧Cd v w' S) { tmps:=args++Array.replicate (Hz.ntmps - args.size) undef,defers:=[] } w Shun):De P T f args Shun w Cd:=by
 intro W e hF
 refine⟨Hz,c,hf,Fo,hbody,fun fr cs Bo=>?_⟩
 have ret:∀(todo:List Item) (a:Act) (W':qq) (S:Loc->Prop) (v:tj),a.defers = []->(∀d,(results Hz a.tmps).run P (W'.at d)=.ok v (W'.at d))->(∀d,∀e∈(results Hz a.tmps).events P (W'.at d) #[],EvL S W'.heap.size e)->T.Far W'/\Cd v (Cf W') S->EA P T.real S (G { (base f).at a todo with mode:=.returning } (fr :: cs)) W':=fun todo a W' S v had hr he hp=>by
  refine EA.goes (n:=1) (Goes.step rfl fun w₁ r=>?_)
  obtain⟨d,rfl⟩:=r
  have Dk:stepG P s7 (G { (base f).at a todo with mode:=.returning } (fr :: cs)) (W'.at d)=.go (G (fr.finish v) cs) (W'.at d) (seen P f ((results Hz a.tmps).events P (W'.at d) #[])):=by
   rw [Eg Ae]
   simp only [unwind,Frame.at,had,base,hf,Sem.runT_eq,hr d,doReturn]
   simp [fw,G]
  rw [Dk,goes_go]
  exact⟨⟨aA _,fun e he'=>he _ e (mem_seen he'),Ed.refl _⟩,EA.stop ((Bo _ _ _ hp).rel ⟨d,rfl⟩)⟩
 refine h W e hF (base f) [] (fr :: cs) rfl rfl fun e' a' W' S ⟨hF',he,had,v,h1,h2,hp⟩=>?_
 have hc:∀(d:Nat) (x:Addr),(W'.at d).cell? x=(Cf W').cell? x:=fun d x=>(Tp W' x).symm
 have h1':∀d,(results Hz a'.tmps).run P (W'.at d)=.ok v (W'.at d):=fun d=>h1 (W'.at d) (hc d)
 have h2':∀d,∀e∈(results Hz a'.tmps).events P (W'.at d) #[],EvL S W'.heap.size e:=fun d e he=>by have:=h2 (W'.at d) e he (hc d);rwa [Cw] at this
 rcases he with rfl|rfl
 ·exact EA.ctl rfl (fun w1=>stepG_end) (ret [] a' W' S v had h1' h2' ⟨hF',hp⟩)
 ·exact fun todo=>ret todo a' W' S v had h1' h2' ⟨hF',hp⟩
end
section
variable {P:me} {main:Bool} {J:Loc->Prop} {Bs:Nat->Prop} {Stop:gq->qq->Prop} {v w:qq} {fn:du} {Q:Exit->Act->qq->Prop} {a:Act} {c:Code}
def wpL(P:me)(main:Bool)(J:Loc->Prop)(Stop:gq->qq->Prop)(fn:du)(c:Code)(Q:Exit->Act->qq->Prop)(a:Act)(w:qq):Prop:=
 ∀(b:qg) (k:List Item) (z:List qg),b.fn=fn->b.kind=.normal->(∀e a' w',Q e a' w'->O7 P main J Stop b k z e a' w')->EV P main J Stop (G (b.at a (.inLoop c :: k)) z) w
theorem Wc(h:N5 P main J Stop fn c (Az (wpL P main J Stop fn c Q) Q) a w){b:qg}{k:List Item}{z:List qg}(hb:b.fn=fn)(hk:b.kind=.normal)(hc:∀e a' w',Q e a' w'->O7 P main J Stop b k z e a' w'):EV P main J Stop (G (b.at a (.code c :: .inLoop c :: k)) z) w:=by
 refine h b (.inLoop c :: k) z hb hk fun e a' w' q=>?_
 cases e with
 | normal=>exact q b k z hb hk hc
 | exit id=>exact(hc _ _ _ q).push rfl Ae
 | ret=>exact(hc _ _ _ q).push (x:=.inLoop c) rfl Ae
 | goto l=>exact hc _ _ _ q
 | panic ch=>exact hc _ _ _ q
 | outgrown=>exact hc _ _ _ q
theorem Ye(h:N5 P main J Stop fn c (Az (wpL P main J Stop fn c Q) Q) a w):wpL P main J Stop fn c Q a w:=
 fun b k z hb hk hc=>EV.ctl rfl rfl (fun _=>stepG_inLoop) (Wc h hb hk hc)
theorem I1(h:N5 P main J Stop fn c (Az (wpL P main J Stop fn c Q) Q) a w):N5 P main J Stop fn (.loop c) Q a w:=
 fun b k z hb hk hc=>EV.ctl rfl rfl (fun _=>stepG_loop) (Wc h hb hk hc)
theorem Ct.back{x y z:qq}(h:Ct J x y)(k:Ct J z y)(hz:NF z):Ct J x z:=by
 refine⟨k.size.symm.trans h.size,fun i=>?_,k.os.symm.trans h.os,k.output.symm.trans h.output,k.tape.symm.trans h.tape,k.drawn.symm.trans h.drawn⟩
 rcases k.like i with e|⟨c,c',e,fz,h1,h2,h3,h4⟩|⟨hJ,o,o',h1,h2,h3,h4⟩|⟨⟨o4,h4,n4⟩,h2⟩
 ·unfold Alike;rw [←e];exact h.like i
 ·rcases h.like i with e'|⟨d,d',e',fz',k1,k2,k3,k4⟩|⟨hJ,p,p',k1,k2,k3,k4⟩|⟨_,k2⟩
  ·exact .inr (.inl ⟨c',c,e,fz,e'.symm.trans h2,h1,h3.symm,fun j hj=>(h4 j hj).symm⟩)
  ·rw [h2] at k2
   simp at k2
   obtain⟨rfl,rfl,rfl⟩:=k2
   exact .inr (.inl ⟨d,c,e,fz,k1,h1,h3.symm.trans k3,fun j hj=>(h4 j hj).symm.trans (k4 j hj)⟩)
  ·rw [h2] at k2
   obtain rfl:=aC k2
   cases k4
  ·rw [h2] at k2;cases k2
 ·rcases h.like i with e'|⟨d,d',e',fz',k1,k2,k3,k4⟩|⟨_,p,p',k1,k2,k3,k4⟩|⟨_,k2⟩
  ·exact .inr (.inr (.inl ⟨hJ,o',o,e'.symm.trans h2,h1,h4,h3⟩))
  ·rw [h2] at k2
   obtain rfl:=aC k2
   cases h4
  ·exact .inr (.inr (.inl ⟨hJ,p,o,k1,h1,k3,h3⟩))
  ·rw [h2] at k2
   obtain rfl:=aC k2
   cases h4
 ·have hd:z.heap[i]? = lp dead:=by
   rcases hz i o4 h4 with h'|rfl
   ·exact absurd h' n4
   ·exact h4
  have e:z.heap[i]? = y.heap[i]?:=hd.trans h2.symm
  unfold Alike
  rw [e]
  exact h.like i
theorem UK{s:Sem Next}{x y:tj}{w':qq}(hR:RL P J s w y w')(D1:s.run P w=.ok (.value x) w):RL P J s w x w:=by
 refine⟨fun h=>h,fun _=>.refl _,fun hn u hs=>?_⟩
 obtain⟨u1,n,es,h1,h2,h3,_⟩:=hR.all hn w (.refl _)
 rw [Sem.runT_eq,D1] at h1
 obtain⟨e1,_⟩:=eL h1
 injection e1 with e2 e3
 subst e3
 have hxy:x=y:=by
  rcases h2 with h2|⟨h2,_⟩
  ·rw [h2] at e2;injection e2
  ·rw [h2] at e2;cases e2
 subst hxy
 obtain⟨u',n',Fi,k1,k2,k3,k4,k5⟩:=hR.all hn u hs
 exact⟨u',n',Fi,k1,k2,k3.back h3 hn.1,k4,k5⟩
end
section
variable {P:me} {main:Bool} {J:Loc->Prop} {Stop:gq->qq->Prop} {ops:Array gz} {i:Nat} {rest:List Nat} {oi:gz} {a:Act} {w:qq} {b:qg} {k:List Item} {z:List qg}
theorem EV.seqN{fn:du}{x y:Code}{Q:Exit->Act->qq->Prop}(hb:b.fn=fn)(hk:b.kind=.normal)(h:N5 P main J Stop fn x Q a w)(hn:∀e a' w',Q e a' w'->e=.normal/\EV P main J Stop (G (b.at a' (.code y :: k)) z) w'):EV P main J Stop (G (b.at a (.code (.seq x y) :: k)) z) w:=
 EV.ctl rfl rfl (fun _=>stepG_seq) (h b (.code y :: k) z hb hk fun e a' w' q=>by obtain⟨rfl,h⟩:=hn _ _ _ q;exact h)
theorem EV.opP{x:tj}(ho:ops[i]? = lp oi)(hw:br oi (iw ops a.tmps)=s7)(hk:b.kind=.normal)(hr:∀w,(execOp a.eval oi).run P w=.ok (.value x) w)(he:∀w,(execOp a.eval oi).events P w #[]=#[])(h:EV P main J Stop (G (b.at (a.put oi.dst x) (.inRegion ops rest :: k)) z) w):EV P main J Stop (G (b.at a (.inRegion ops (i :: rest) :: k)) z) w:=by
 have hke:b.kind≠.early:=by rw [hk];decide
 refine EV.ctl rfl rfl (fun w=>?_) h
 exact O7p
theorem EV.opE{f:du}{args:Array tj}{Cd:tj->qq->Prop}(ho:ops[i]? = lp oi)(hw:br oi (iw ops a.tmps)=s7)(hk:b.kind=.normal)(hr:∀w,(execOp a.eval oi).run P w=.ok (.enter f args) w)(he:∀w,(execOp a.eval oi).events P w #[]=#[])(Gh:Bz P main J Stop f args w Cd)(Bo:∀y w',Cd y w'->EV P main J Stop (G (b.at (a.put oi.dst y) (.inRegion ops rest :: k)) z) w'):EV P main J Stop (G (b.at a (.inRegion ops (i :: rest) :: k)) z) w:=by
 obtain⟨f',c,h1,Fo,h2,h⟩:=Gh
 have hke:b.kind≠.early:=by rw [hk];decide
 have Gw:∀v,(b.at a (.inRegion ops (i :: rest) :: k)).finish v=b.at (a.put oi.dst v) (.inRegion ops rest :: k):=fun v=>by rw [Frame.finish_at,ho];rfl
 refine EV.ctl rfl rfl (fun w=>?_) (h (b.at a (.inRegion ops (i :: rest) :: k)) z rfl fun v w' q=>by rw [Gw];exact Bo v w' q)
 exact Lhg
theorem EV.opC{f:du}{args:Array Operand}{ats:Array s8}{xs:Array tj}{Cd:tj->qq->Prop}(Gh:Bz P main J Stop f xs w Cd)(ho:ops[i]? = lp oi)(hw:br oi (iw ops a.tmps)=s7)(hk:b.kind=.normal)(Bt:oi.op=.call { callee:=.value (.func f),args,argTypes:=ats })(hargs:args.map a.eval=xs)(Bo:∀y w',Cd y w'->EV P main J Stop (G (b.at (a.put oi.dst y) (.inRegion ops rest :: k)) z) w'):EV P main J Stop (G (b.at a (.inRegion ops (i :: rest) :: k)) z) w:=by
 have hcall':=Gh
 obtain⟨f',c,h1,Fo,h2,_⟩:=hcall'
 have Es:f'.body.isNone=vp:=by rw [h2];rfl
 subst hargs
 exact EV.opE ho hw hk (fun w=>run_call_body Bt h1 Fo Es) (fun w=>events_call_body Bt h1 Fo Es _) Gh Bo
end
theorem Bj{P:me}{main:Bool}{R:qq->qq->Prop}{D:qq->qq->Array Event->Prop}{Stop:gq->qq->Prop}{b:qg}{a:Act}{k:List Item}{cs:List qg}{w:qq}{ops:Array gz}{i:Nat}{rest:List Nat}{o:gz}{n:Nat}(ho:ops[i]? = lp o)(hw:br o (iw ops a.tmps)=s7)(hk:b.kind≠.early)(h:∀w₁,R w w₁->∀K':Act->qq->Prop,(∀a' w',D w₁ w' (listed P b.fn a o w₁)/\Goes P main R D Stop n (G (b.at a' (.inRegion ops rest :: k)) cs) w'->K' a' w')->uponK o a K' ((execOp a.eval o).run P w₁)) :
  Goes P main R D Stop (n+1) (G (b.at a (.inRegion ops (i :: rest) :: k)) cs) w:=by
 refine Goes.step rfl fun w₁ h₁=>goes_oper ho hw hk ?_
 have:=h w₁ h₁ _ fun _ _ x=>x
 revert this
 cases(execOp a.eval o).run P w₁ with
 | ok x w'=>cases x <;> first|exact fun⟨d,g⟩=>⟨d,g⟩|exact id
 | halt _ _=>exact id
theorem Av{P:me}{main:Bool}{R:qq->qq->Prop}{D:qq->qq->Array Event->Prop}{Stop:gq->qq->Prop}(T:Terms R D){n:Nat}{g g':gq}{w:qq}(hr:g.status=.running)(hs:∀w,stepG P main g w=.go g' w #[])(h:Goes P main R D Stop n g' w) :
  Goes P main R D Stop (n+1) g w:=Goes.step hr fun w₁ h₁=>by rw [hs];exact⟨T.idle _,h.rely T.trans h₁⟩
theorem Oi{b:qg}{a:Act}{k:List Item}{cs:List qg}{ops:Array gz}{i:Nat}{rest:List Nat}{o:gz}(ho:ops[i]? = lp o)(v:tj):Conc.served (core (G (b.at a (.inRegion ops (i :: rest) :: k)) cs)) v=G (b.at (a.put o.dst v) (.inRegion ops rest :: k)) cs:=by
 rw [core_G,served_G,ho]
 rfl
section
variable {P:me} {main:Bool} {b:qg} {a:Act} {k:List Item} {cs:List qg} {w:qq}
def Mi(t ty:s8)(c:Nat):Deferred:={ target:=.builtin .close #[t] ty #[vp],args:=#[.chan (lp c)] }
theorem Lb{ops:Array gz}{i:Nat}{rest:List Nat}{o:gz}{x:Tmp}{t:s8}{c:Nat}(ho:ops[i]? = lp o)(hw:br o (iw ops a.tmps)=s7)(hk:b.kind≠.early)(Bt:o.op=.defer { callee:=.builtin .close,args:=#[.tmp x],argTypes:=#[t] })(hx:a.eval (.tmp x)=.chan (lp c)) :
  stepG P main (G (b.at a (.inRegion ops (i :: rest) :: k)) cs) w=.go (G (b.at (Act.put ⟨a.tmps,Mi t o.type c :: a.defers⟩ o.dst undef) (.inRegion ops rest :: k)) cs) w #[]:=by
 have hr:(execOp a.eval o).run P w=.ok (.defer (Mi t o.type c)) w:=by
  unfold execOp
  simp [Bt,resolve,Mi,hx]
 have he:(execOp a.eval o).events P w #[]=#[]:=by
  unfold execOp
  simp [Bt,resolve]
 have Gw:(b.at ⟨a.tmps,Mi t o.type c :: a.defers⟩ (.inRegion ops (i :: rest) :: k)).finish undef=b.at (Act.put ⟨a.tmps,Mi t o.type c :: a.defers⟩ o.dst undef) (.inRegion ops rest :: k):=by rw [Frame.finish_at,ho];rfl
 have hk':(b.kind == CallKind.early)=vp:=by simpa using hk
 rw [stepG_oper ho hw,←Gw]
 simp [stepG.apply,hr,he,G,Frame.at,hk',fw,seen_none]
theorem Ke{todo:List Item}{ds:List Deferred}{t ty:s8}{c s r:Nat}{tm:Bool}(hd:a.defers=Mi t ty c :: ds)(hq:(P.funcs[b.fn]?).any (·.norace)=vp)(hc:w.heap[c]? = lp (.chan 0 #[] vp s r tm)) :
  stepG P main (G { b.at a todo with mode:=.returning } cs) w=.go (G { b.at ⟨a.tmps,ds⟩ todo with mode:=.returning } cs) (w.shut c s r tm) #[⟨.obj c,vp,s7⟩,⟨.obj c,s7,s7⟩]:=by
 have hr:(invoke (.builtin .close #[t] ty #[vp]) #[.chan (lp c)]).run P w=.ok (.value (.tuple #[])) (w.shut c s r tm):=by
  simp only [invoke,builtin,Sem.run_bind,run_close_open (P:=P) #[t] ty hc]
  rfl
 have he:(invoke (.builtin .close #[t] ty #[vp]) #[.chan (lp c)]).events P w #[]=#[⟨.obj c,vp,s7⟩,⟨.obj c,s7,s7⟩]:=by
  simp only [invoke,builtin,Sem.events_bind,events_close_open (P:=P) #[t] ty hc,run_close_open (P:=P) #[t] ty hc]
  rfl
 have hl:seen P b.fn #[⟨.obj c,vp,s7⟩,⟨.obj c,s7,s7⟩]=#[⟨.obj c,vp,s7⟩,⟨.obj c,s7,s7⟩]:=seen_eq hq (by intro e he f;simp only [List.mem_toArray,bI,List.not_mem_nil,or_false] at he;rcases he with rfl|rfl <;> simp)
 simp [G,stepG,unwind,callDeferred,Frame.at,hd,Mi,hr,he,fw,hl]
end
theorem AJ{w:qq}{b i:Nat}{cur:Array tj}{t:s8}{v:tj}{f:Nat×Nat}(h:w.heap[b]? = lp (ye cur t f)):(w.setCell ⟨b,i,none⟩ v).heap[b]? = lp (ye (cur.setIfInBounds i v) t f):=by
 simp [World.setCell,bJ,h]
structure PV(w0:qq)(os:List Obj)(w:qq):Prop where
 size:w.heap.size=w0.heap.size+os.length
 old:∀i,i<w0.heap.size->w.heap[i]? = w0.heap[i]?
 new:∀j o,os[j]? = lp o->w.heap[w0.heap.size+j]? = lp o
section
variable {w0 w w₁:qq} {os:List Obj}
theorem PV.start(w:qq):PV w [] w:=⟨rfl,fun _ _=>rfl,fun j o h=>by simp at h⟩
theorem PV.rely(h:PV w0 os w)(r:AtRel w w₁):PV w0 os w₁:=by
 obtain⟨d,rfl⟩:=r
 exact⟨h.size,h.old,h.new⟩
theorem PV.push(h:PV w0 os w)(o:Obj):PV w0 (os ++ [o]) (w.alloc o):=by
 have hh:(w.alloc o).heap=w.heap.push o:=rfl
 refine⟨by rw [hh,Array.size_push,h.size];simp;omega,fun i hi=>?_,fun j x hx=>?_⟩
 ·rw [hh,eC,aO (by have:=h.size;omega)]
  exact h.old i hi
 ·rcases cO j os.length with hj|hj
  ·rw [eE hj] at hx
   rw [hh,eC,aO (by have:=h.size;omega)]
   exact h.new j x hx
  ·rw [eB hj] at hx
   have hj0:j - os.length=0:=by
    have:=(aW.1 hx).1
    simp at this
    omega
   rw [hj0] at hx
   simp at hx
   rw [hh,eC,aQ (by have:=h.size;omega),hx]
theorem PV.set(h:PV w0 os w){j i:Nat}{cur:Array tj}{t:s8}(ho:os[j]? = lp (ye cur t))(x:tj):PV w0 (os.set j (ye (cur.setIfInBounds i x) t)) (w.setCell ⟨w0.heap.size+j,i,none⟩ x):=by
 refine⟨by rw [Hj,h.size];simp,fun k hk=>by rw [G7 _ _ (show k≠w0.heap.size+j by omega)];exact h.old k hk,fun k o hk=>?_⟩
 by_cases e:k=j
 ·subst e
  have Cg:=(aW.1 ho).1
  rw [List.getElem?_set_self Cg] at hk
  cases hk
  rw [AJ (h.new k _ ho)]
 ·rw [List.getElem?_set_ne Ab] at hk
  rw [G7 _ _ (show w0.heap.size+k≠w0.heap.size+j by omega)]
  exact h.new k o hk
theorem PV.cell(h:PV w0 os w){j i:Nat}{cur:Array tj}{t:s8}{x:tj}(ho:os[j]? = lp (ye cur t))(hx:cur[i]? = lp x):w.cell? ⟨w0.heap.size+j,i,none⟩=lp x:=by
 simp [World.cell?,h.new j _ ho,hx]
theorem PV.fz(h:PV w0 os w){j i:Nat}{cur:Array tj}{t:s8}(ho:os[j]? = lp (ye cur t)):w.frozen? ⟨w0.heap.size+j,i,none⟩=vp:=by
 simp [World.frozen?,h.new j _ ho]
theorem PV.cellOld(h:PV w0 os w){i j:Nat}{cur:Array tj}{t:s8}{x:tj}(ho:w0.heap[i]? = lp (ye cur t))(hx:cur[j]? = lp x):w.cell? ⟨i,j,none⟩=lp x:=by
 have:=h.old i (Ax ho)
 rw [ho] at this
 simp [World.cell?,this,hx]
end
section
variable {Shun:Loc->Prop}
theorem Gg(w:qq)(o:Obj):DS Shun w (w.alloc o) #[]:=⟨by show w.heap.size<=(w.heap.push o).size;rw [Array.size_push];omega,Ae,rfl,rfl⟩
theorem If{w:qq}{es:Array Event}(h:∀e∈es,EvL Shun w.heap.size e):DS Shun w w es:=⟨aA _,h,rfl,rfl⟩
theorem MZ{w:qq}{a:Addr}{x:tj}{es:Array Event}(h:∀e∈es,EvL Shun w.heap.size e):DS Shun w (w.setCell a x) es:=⟨by rw [Hj];exact aA _,by rw [Hj];exact h,rfl,rfl⟩
theorem GD:Terms AtRel Pair.D0:=⟨atRel_trans,fun w=>⟨rfl,rfl⟩⟩
end
end Go.Pair

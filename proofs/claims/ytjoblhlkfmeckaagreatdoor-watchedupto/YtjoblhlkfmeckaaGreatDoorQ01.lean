import Derived.Test.YtjoblhlkfmeckaaGreatDoorBase
import Derived.Conc.CompanyDraw
import Derived.Conc.Beside
import Derived.Conc.CrowdComm
import Derived.Conc.FxGenW
import Derived.Conc.CrowdCom2
set_option linter.unusedVariables false
set_option linter.unusedSimpArgs false
open Go renaming Goroutine → gq,World → qq,Value → tj,Event → p6,Trace → bd,Program → me,FuncId → du,HappensBefore → qu,TypeId → s8,partners → r9
open Bool renaming true → s7,false → vp
open Option renaming some → lp,none → od
open Go.Conc renaming mem_ofEvents → mv,Goes → bf,served → ay,offersAt_of_not_blocked → fp,touch_of → yx,Deaf_other → x9,Deaf → pj,touchAt → ic,rcase → e9,parked → yy,Deaf_own → ot,deafBehind_still → tu,hb_app → kh,scase → mh,touchAt_of → ub,runT_crowd_go → zv,heard_old → uk,woken → qm
open Go.Trace renaming g? → pg
open Go.World renaming setCell → vk
open Go.ConcN renaming Deaf_still → v8
open Go.Conc.Goes renaming rely → dd
open Or renaming inl → af,inr → o5
theorem Dem{p q:Prop}(k:q)(h:Hd q->p:=by
 intro kz
 have hi0:(i == 0)=false:=Ag
 have Cg:i<gs.size:=(aF.1 hi).1
 revert hi0 Cg
 exact kz.1):p:=h ⟨k⟩
theorem Z2o{p:Prop}(h:p:=by
 rwa [aD Ab] at hx):p:=h
theorem Y9t{p:Prop}(h:p:=by
 rwa [aD Ab,aD Ab] at hx):p:=h
theorem Ily{p:Prop}(h:p:=by
 rw [aD Ab,bS] at hx
 obtain⟨y,hy,rfl⟩:=aJ.1 hx
 rw [woken_quitsD (hO.old j y hj hjk hy)]
 exact hy):p:=h
theorem G48{p:Prop}(h:p:=by
 rcases getElem?_stand gs 0 j x hx with⟨_,rfl⟩|⟨hj,hx'⟩
 ·exact offersAt_ph _ _
 ·by_cases hjk:j=k
  ·subst hjk
   rw [hb] at hx'
   obtain rfl:=aC hx'
   exact offersAt_of_not_blocked hnb _ _
  ·exact offersAt_of_not_blocked (hO.notBlocked Ab hjk hx') _ _):p:=h
theorem B1o{p:Prop}(h:p:=by
 rcases h.knB i a (by rw [touchAt_of hx'];exact hxa) hm with h1|h1|⟨h1,h2⟩
 ·exact .inl (h1.app u)
 ·exact .inr (.inl h1)
 ·exact .inr (.inr ⟨Rr h1,h2.imp (Q.aGrow _ _ _ _ hg) id⟩)):p:=h
theorem N06{p:Prop}(h:p:=by
 rcases h.knA i a (by rw [touchAt_of hx'];exact hxa) hm with h1|h1|⟨h1,h2⟩
 ·exact .inl (h1.app u)
 ·exact .inr (.inl h1)
 ·exact .inr (.inr ⟨Rr h1,h2.imp (Q.bGrow _ _ _ _ hg) id⟩)):p:=h
theorem Ti7{p:Prop}(h:p:=by
 simp only [Ku,MemAct.touch?,aL] at hb
 subst hb
 exact .inr (.inl ⟨⟨_,rfl,rfl⟩,Ae⟩)):p:=h
theorem Kfe{p:Prop}(h:p:=by
 rw [Ep (.inl (hg.running (fun _ _=>WS.running) w (RA.refl _ _ _)))]
 exact .inl ⟨n,e,hg⟩):p:=h
theorem Lwp{p:Prop}(h:p:=by
 have e3:Conc.woken P g g' w' { x with status:=.blocked }=x:=by
  unfold Conc.woken
  rw [aQ hw]
  obtain⟨f,c,s,d,o⟩:=x
  have h1:s=.running:=h0.1
  have h2:o=none:=h0.2.1
  subst h1 h2
  rfl
 rw [e3]
 subst e1
 exact fun w₁ h₁=>hs w₁ h₁):p:=h
namespace Go.Pair
open Go Go.Conc
section
variable {P:me} {main:Bool} {R:qq->qq->Prop} {D:qq->qq->Array p6->Prop} {fn:du} {ops:Array Oper} {Q:Exit->Act->qq->Prop} {md:Region.Mode} {S:qq->Prop} {nf:Nat}
theorem Oz{oj:Oper}{f:du}{args:Array Operand}{ats:Array s8}{a:Act}{dst:Option Tmp}{v:tj}(Bt:oj.op=.call { callee:=.value (.func f),args:=args,argTypes:=ats })(h:∀d,dst=lp d->d∉oj.looksAt ops):args.map (a.put dst v).eval=args.map a.eval:=
 Array.map_congr_left fun x hx=>Act.eval_put fun d hd hxd=>h d hd (by
  subst hxd
  refine dZ _ (List.mem_filterMap.2 ⟨.tmp d,?_,rfl⟩)
  simp [Bt,Op.operands,Call.operands,hx])
end
open Go.ConcN (sumTo upd sumTo_upd upd_ne upd_same)
structure Jz(P:me)(t:bd)(gs:Array gq)(k:Nat)(q:Nat->Nat):Prop where
 old:∀i g,0<i->i≠k->gs[i]? = lp g->QuitsD P (q i) (pj t i) g
 above:∀j,gs.size<=j->pj t j=0
def StepA(P:me)(k:Nat)(a b:gq)(w:qq)(t:bd)(K:gq->gq->qq->bd->Prop):Prop:=
 (∃a' w' es,stepG P s7 a w=.go a' w' es/\K a' (woken P a a' w' b) w' (t++MemOp.ofEvents 0 a.frame.fn a.frame.place es)) ∨
 (∃a₂ c z es s r tm,stepG P s7 a w=.comm a₂ #[e9 c z] s7 (.recv s7) w es/\w.heap[c]? = lp (.chan 0 #[] vp s r tm)/\b.status≠.blocked /\
  K (yy a₂ #[e9 c z] (.recv s7)) b w (t++MemOp.ofEvents 0 a.frame.fn a.frame.place es)) ∨
 (∃a₂ c z es s r tm b₂ v z',stepG P s7 a w=.comm a₂ #[e9 c z] s7 (.recv s7) w es/\w.heap[c]? = lp (.chan 0 #[] vp s r tm)/\b=yy b₂ #[mh c v z'] .send /\
  K (ay a₂ (.tuple #[v,.bool s7])) (ay b₂ undef) (w.setChan c 0 #[] vp (s+1) (r+1) tm) (t++(MemOp.ofEvents 0 a.frame.fn a.frame.place es ++
   #[{ g:=k,fn:=b₂.frame.fn,pos:=b₂.frame.place,act:=.send c s },{ g:=0,fn:=a₂.frame.fn,pos:=a₂.frame.place,act:=.recv c r 0 },
    {g:=k,fn:=b₂.frame.fn,pos:=b₂.frame.place,act:=.sendDone c s },{ g:=0,fn:=a₂.frame.fn,pos:=a₂.frame.place,act:=.recvDone c r }]))) ∨
 (∃a₂ c z es s r tm,stepG P s7 a w=.comm a₂ #[e9 c z] s7 (.recv s7) w es/\w.heap[c]? = lp (.chan 0 #[] s7 s r tm)/\b.status≠.blocked /\
  K (ay a₂ (.tuple #[z,.bool vp])) b w (t++(MemOp.ofEvents 0 a.frame.fn a.frame.place es++#[{ g:=0,fn:=a₂.frame.fn,pos:=a₂.frame.place,act:=.recvClosed c }])))
def StepB(P:me)(k:Nat)(a b:gq)(w:qq)(t:bd)(K:gq->gq->qq->bd->Prop):Prop:=
 (∃b' w' es,stepG P vp b w=.go b' w' es/\K (woken P b b' w' a) b' w' (t++MemOp.ofEvents k b.frame.fn b.frame.place es)) ∨
 (∃b₂ c v z es s r tm,stepG P vp b w=.comm b₂ #[mh c v z] s7 .send w es/\w.heap[c]? = lp (.chan 0 #[] vp s r tm)/\a.status≠.blocked /\
  K a (yy b₂ #[mh c v z] .send) w (t++MemOp.ofEvents k b.frame.fn b.frame.place es)) ∨
 (∃b₂ c v z es s r tm a₂ z',stepG P vp b w=.comm b₂ #[mh c v z] s7 .send w es/\w.heap[c]? = lp (.chan 0 #[] vp s r tm)/\a=yy a₂ #[e9 c z'] (.recv s7) /\
  K (ay a₂ (.tuple #[v,.bool s7])) (ay b₂ undef) (w.setChan c 0 #[] vp (s+1) (r+1) tm) (t++(MemOp.ofEvents k b.frame.fn b.frame.place es ++
   #[{ g:=k,fn:=b₂.frame.fn,pos:=b₂.frame.place,act:=.send c s },{ g:=0,fn:=a₂.frame.fn,pos:=a₂.frame.place,act:=.recv c r 0 },
    {g:=k,fn:=b₂.frame.fn,pos:=b₂.frame.place,act:=.sendDone c s },{ g:=0,fn:=a₂.frame.fn,pos:=a₂.frame.place,act:=.recvDone c r }])))
section
variable {P:me} {k:Nat} {t:bd} {gs:Array gq} {q:Nat->Nat}
theorem Jz.notBlocked(h:Jz P t gs k q){i:Nat}{g:gq}(h0:0<i)(hk:i≠k)(hi:gs[i]? = lp g):g.status≠.blocked:=by
 intro e
 rcases(h.old i g h0 hk hi).status with x|x <;> rw [x] at e <;> cases e
theorem Jz.app{u:bd}{gs':Array gq}(hk:0<k)(h:Jz P t gs k q)(hu:∀op∈u,op.g=0∨op.g=k)(Di:gs'.size=gs.size)(hkb:k<gs.size)(hgs:∀i g,0<i->i≠k->gs'[i]? = lp g->gs[i]? = lp g):Jz P (t++u) gs' k q:=by
 have hd:∀j,j≠0->j≠k->pj (t++u) j=pj t j:=by
  intro j h0 hjk
  have e:∀(l:List MemOp),(∀op∈l,op.g=0∨op.g=k)->∀d,l.foldl (deafStep j) d=d:=by
   intro l
   induction l with
   | nil=>intros;rfl
   | cons y l ih=>
    intro hl d
    rw [eR,ih (fun op Bt=>hl op (by simp [Bt]))]
    unfold deafStep
    have hy:y.g≠j:=by rcases hl y Ae with e|e <;> rw [e] <;> omega
    split <;> simp [hy]
  have:=Deaf_append t j u.toList
  simp only [Array.toArray_toList] at this
  rw [this]
  exact e _ (fun op Bt=>hu op (by simpa using Bt)) _
 refine⟨fun i g h0 hik hi=>?_,fun j hj=>?_⟩
 ·rw [hd i Ab hik]
  exact h.old i g h0 hik (hgs i g h0 hik hi)
 ·rw [Di] at hj
  rw [hd j Ab Ab]
  exact h.above j hj
end
section
variable {P:me} {k:Nat} {α:Type} {lt:α->α->Prop} {J:α->gq->gq->qq->bd->Prop} {Fin:gq->gq->qq->bd->Prop}
theorem B6{g:Nat}{fn:du}{pos:String}{es:Array p6}{op:MemOp}(h:op∈MemOp.ofEvents g fn pos es):op.g=g:=by
 obtain⟨e,_,rfl⟩:=mv h
 rfl
theorem Z4(hk:0<k)(wf:WellFounded lt)(hAt:∀μ a b w t d,J μ a b w t->J μ a b (w.at d) t)(hFin:∀a b w t d,Fin a b (w.at d) t->Fin a b w t)(hMute:∀μ a b w t i fn pos es,i≠0->i≠k->(∀e∈es,Event.mute e=s7)->J μ a b w t->J μ a b w (t++MemOp.ofEvents i fn pos es))(hWake:∀μ a b w t g g',J μ a b w t->∃μ',J μ' (woken P g g' w a) (woken P g g' w b) w t)(hAwake:∀μ a b w t,J μ a b w t->awake a/\awake b/\(a.status=.running∨b.status=.running))(hStep:∀μ a b w t,J μ a b w t->Fin a b w t∨((a.status=.running->StepA P k a b w t fun a' b' w' t'=>∃μ',lt μ' μ/\J μ' a' b' w' t')/\(b.status=.running->StepB P k a b w t fun a' b' w' t'=>∃μ',lt μ' μ/\J μ' a' b' w' t'))) :
  ∀(M:Nat) (μ:α) (gs:Array gq) (a b:gq) (w:qq) (sl:Option (Nat×Nat)) (t:bd) (q:Nat->Nat),sumTo gs.size q<=M->gs[0]? = lp a->gs[k]? = lp b->Jz P t gs k q->J μ a b w t ->
   ∃(N:Nat) (gs':Array gq) (a' b':gq) (w':qq) (sl':Option (Nat×Nat)) (t':bd) (q':Nat->Nat),
    runNT P N (crowd gs w sl) t=(.next (crowd gs' w' sl'),t')/\gs'.size=gs.size/\gs'[0]? = lp a'/\gs'[k]? = lp b'/\Fin a' b' w' t'/\Jz P t' gs' k q':=by
 intro M
 induction M using Nat.strongRecOn with
 | _ M ihM=>
 intro μ
 induction μ using wf.induction with
 | _ μ ihμ=>
 intro gs a b w sl t q hM h0 hb hO hJ
 by_cases hF:Fin a b w t
 ·exact⟨0,gs,a,b,w,sl,t,q,rfl,rfl,h0,hb,hF,hO⟩
 obtain⟨hwa,hwb,D1⟩:=hAwake μ a b w t hJ
 have hlt0:0<gs.size:=(aF.1 h0).1
 have hltk:k<gs.size:=(aF.1 hb).1
 have haw:∀g∈gs,awake g:=by
  intro g hg
  obtain⟨i,hi,rfl⟩:=Array.mem_iff_getElem.1 hg
  rcases cX i with rfl|H9
  ·have:gs[0]=a:=by simpa [aZ hi] using h0
   rw [this];exact hwa
  ·by_cases hik:i=k
   ·subst hik
    have:gs[i]=b:=by simpa [aZ hi] using hb
    rw [this];exact hwb
   ·exact awake_of ((hO.old i _ H9 hik (aZ hi)).status.elim af fun x=>o5 (o5 x))
 obtain⟨i,g,d,sl',hi,hg,Dk⟩:=crowd_pick (P:=P) (w:=w) (sl:=sl) haw (by
  rcases D1 with h|h
  ·exact⟨0,a,h0,h⟩
  ·exact⟨k,b,hb,h⟩)
 have hJd:=hAt μ a b w t d hJ
 have hFd:¬Fin a b (w.at d) t:=fun h=>hF (hFin _ _ _ _ d h)
 have goOn:∀(gs':Array gq) (a' b':gq) (w':qq) (u:bd),stepT P (crowd gs w sl)=(.next (crowd gs' w' sl'),u)->gs'.size=gs.size->gs'[0]? = lp a'->gs'[k]? = lp b'->Jz P (t++u) gs' k q->(∃μ',lt μ' μ/\J μ' a' b' w' (t++u)) ->
   ∃(N:Nat) (gs'':Array gq) (a'' b'':gq) (Hx:qq) (sl'':Option (Nat×Nat)) (t'':bd) (q'':Nat->Nat),
    runNT P N (crowd gs w sl) t=(.next (crowd gs'' Hx sl''),t'')/\gs''.size=gs.size/\gs''[0]? = lp a''/\gs''[k]? = lp b''/\Fin a'' b'' Hx t''/\Jz P t'' gs'' k q'':=by
  intro gs' a' b' w' u hs Di h0' Es hO' ⟨μ',Cg,hJ'⟩
  obtain⟨N,gs'',a'',b'',Hx,sl'',t'',q'',hr,hz,x0,xb,xF,xO⟩:=ihμ μ' Cg gs' a' b' w' sl' (t++u) q (by rw [Di];exact hM) h0' Es hO' hJ'
  exact⟨N+1,gs'',a'',b'',Hx,sl'',t'',q'',by simp only [runNT,hs];exact hr,hz.trans Di,x0,xb,xF,xO⟩
 have own:∀(g':Nat),(g'=0∨g'=k)->∀fn pos es,∀op∈MemOp.ofEvents g' fn pos es,op.g=0∨op.g=k:=fun g' hg' fn pos es op Bt=>by rw [B6 Bt];exact hg'
 rcases cX i with rfl|H9
 ·
  obtain rfl:g=a:=by rw [h0] at hi;exact(aC hi).symm
  rcases hStep μ g b (w.at d) t hJd with hF'|⟨hSA,_⟩
  ·exact absurd hF' hFd
  rcases hSA hg with⟨a',w',es,hs,hK⟩|⟨a₂,c,z,es,s,r,tm,hs,hc,hnb,hK⟩|⟨a₂,c,z,es,s,r,tm,b₂,v,z',hs,hc,rfl,hK⟩|⟨a₂,c,z,es,s,r,tm,hs,hc,hnb,hK⟩
  ·refine goOn ((gs.map (woken P g a' w')).setIfInBounds 0 a') a' (woken P g a' w' b) w' _ (Dk.trans (zv (P:=P) (sl:=sl') (i:=0) hi (show stepG P (0 == 0) g (w.at d)=_ from hs))) Ae (by simp [hlt0]) ?_ (hO.app hk (own 0 (af rfl) _ _ _) Ae hltk fun j x hj hjk hx=>?_) hK
   ·rw [aD Ab,bS,hb];rfl
   ·exact Ily
  ·have hp:r9 (gs.setIfInBounds 0 ph) c s7 = []:=partners_nil fun j x hx=>by
    exact G48
   refine goOn (gs.setIfInBounds 0 (yy a₂ #[e9 c z] (.recv s7))) _ b (w.at d) _ (Dk.trans (crowd_waits (P:=P) (sl:=sl') (i:=0) hi (show stepG P (0 == 0) g (w.at d)=_ from hs) fun cc hcc=>?_)) Ae (by simp [hlt0]) ?_ (hO.app hk (own 0 (af rfl) _ _ _) Ae hltk fun j x hj hjk hx=>?_) hK
   ·obtain rfl:cc=e9 c z:=by simpa using hcc
    exact ways_recv_none hc hp
   ·rw [aD Ab];exact hb
   ·exact Z2o
  ·have hp:r9 (gs.setIfInBounds 0 ph) c s7 = [(k,0)]:=by
    rw [partners_one (stand_get Ab hb) fun j x hj hx=>?_]
    ·simp [offersAt_parked_send]
    ·rcases getElem?_stand gs 0 j x hx with⟨_,rfl⟩|⟨hj0,hx'⟩
     ·exact offersAt_ph _ _
     ·exact fp (hO.notBlocked Ab hj hx') _ _
   refine goOn _ _ _ _ _ (Dk.trans (crowd_recv_meets (P:=P) (sl:=sl') (i:=0) (j:=k) hi (show stepG P (0 == 0) g (w.at d)=_ from hs) hc Ab hb hp)) Ae (by simp [hlt0];rfl) ?_ (hO.app hk ?_ Ae hltk fun j x hj hjk hx=>?_) hK
   ·rw [aD Ab,aS hltk];rfl
   ·intro op Bt
    rcases dM.1 Bt with Bt|Bt
    ·exact own 0 (af rfl) _ _ _ op Bt
    ·simp at Bt
     rcases Bt with rfl|rfl|rfl|rfl <;> simp
   ·exact Y9t
  ·have hp:r9 (gs.setIfInBounds 0 ph) c s7 = []:=partners_nil fun j x hx=>by
    exact G48
   refine goOn _ _ b (w.at d) _ (Dk.trans (crowd_recv_closed (P:=P) (sl:=sl') (i:=0) hi (show stepG P (0 == 0) g (w.at d)=_ from hs) hc hp)) Ae (by simp [hlt0];rfl) ?_ (hO.app hk ?_ Ae hltk fun j x hj hjk hx=>?_) hK
   ·rw [aD Ab];exact hb
   ·intro op Bt
    rcases dM.1 Bt with Bt|Bt
    ·exact own 0 (af rfl) _ _ _ op Bt
    ·simp at Bt
     rw [Bt];simp
   ·exact Z2o
 ·by_cases hik:i=k
  ·
   subst hik
   obtain rfl:g=b:=by rw [hb] at hi;exact(aC hi).symm
   have hi0:(i == 0)=vp:=Ag
   rcases hStep μ a g (w.at d) t hJd with hF'|⟨_,hSB⟩
   ·exact absurd hF' hFd
   rcases hSB hg with⟨b',w',es,hs,hK⟩|⟨b₂,c,v,z,es,s,r,tm,hs,hc,hna,hK⟩|⟨b₂,c,v,z,es,s,r,tm,a₂,z',hs,hc,rfl,hK⟩
   ·refine goOn ((gs.map (woken P g b' w')).setIfInBounds i b') (woken P g b' w' a) b' w' _ (Dk.trans (zv (P:=P) (sl:=sl') (i:=i) hi (by rw [hi0];exact hs))) Ae ?_ (by simp [hltk]) (hO.app hk (own i (o5 rfl) _ _ _) Ae hltk fun j x hj hjk hx=>?_) hK
    ·rw [aD Ab,bS,h0];rfl
    ·exact Ily
   ·have hp:r9 (gs.setIfInBounds i ph) c vp = []:=partners_nil fun j x hx=>by
     rcases getElem?_stand gs i j x hx with⟨_,rfl⟩|⟨hj,hx'⟩
     ·exact offersAt_ph _ _
     ·rcases cX j with rfl|hj0
      ·rw [h0] at hx'
       obtain rfl:=aC hx'
       exact fp hna _ _
      ·exact fp (hO.notBlocked hj0 hj hx') _ _
    refine goOn (gs.setIfInBounds i (yy b₂ #[mh c v z] .send)) a _ (w.at d) _ (Dk.trans (crowd_waits (P:=P) (sl:=sl') (i:=i) hi (by rw [hi0];exact hs) fun cc hcc=>?_)) Ae ?_ (by simp [hltk]) (hO.app hk (own i (o5 rfl) _ _ _) Ae hltk fun j x hj hjk hx=>?_) hK
    ·obtain rfl:cc=mh c v z:=by simpa using hcc
     exact ways_send_none hc Ae hp
    ·rw [aD Ab];exact h0
    ·exact Z2o
   ·have hp:r9 (gs.setIfInBounds i ph) c vp = [(0,0)]:=by
     rw [partners_one (stand_get Ab h0) fun j x hj hx=>?_]
     ·simp [offersAt_parked_recv]
     ·rcases getElem?_stand gs i j x hx with⟨_,rfl⟩|⟨hji,hx'⟩
      ·exact offersAt_ph _ _
      ·exact fp (hO.notBlocked Ab hji hx') _ _
    refine goOn _ _ _ _ _ (Dk.trans (crowd_send_meets (P:=P) (sl:=sl') (i:=i) (j:=0) hi (by rw [hi0];exact hs) hc Ab h0 hp)) Ae ?_ (by simp [hltk];rfl) (hO.app hk ?_ Ae hltk fun j x hj hjk hx=>?_) hK
    ·rw [aD Ab,aS hlt0];rfl
    ·intro op Bt
     rcases dM.1 Bt with Bt|Bt
     ·exact own i (o5 rfl) _ _ _ op Bt
     ·simp at Bt
      rcases Bt with rfl|rfl|rfl|rfl <;> simp
    ·exact Y9t
  ·
   have hq:=hO.old i g H9 hik hi
   refine Dem ?_;intro hi0 Cg
   cases hqi:q i with
   | zero=>rw [hqi] at hq;rw [hq.1] at hg;cases hg
   | succ m=>
    rw [hqi] at hq
    rcases hq with⟨hf,_⟩|⟨_,g',es,hm,hstp,hq'⟩
    ·rw [hf] at hg;cases hg
    have hrunT:=zv (P:=P) (sl:=sl') (i:=i) hi (by rw [hi0];exact hstp (w.at d))
    have Di:((gs.map (woken P g g' (w.at d))).setIfInBounds i g').size=gs.size:=Ae
    have hsum:sumTo gs.size (upd q i m)+(m+1)=sumTo gs.size q+m:=by
     have:=sumTo_upd q m id Cg
     simpa [hqi] using this
    obtain⟨μ',hJ'⟩:=hWake μ a b (w.at d) t g g' hJd
    have hJ'':=hMute μ' _ _ _ _ i g.frame.fn g.frame.place es Ab hik hm hJ'
    obtain⟨N,gs'',a'',b'',Hx,sl'',t'',q'',hr,hz,x0,xb,xF,xO⟩:=ihM (sumTo gs.size (upd q i m)) Ab μ' ((gs.map (woken P g g' (w.at d))).setIfInBounds i g') (woken P g g' (w.at d) a) (woken P g g' (w.at d) b) (w.at d) sl' (t++MemOp.ofEvents i g.frame.fn g.frame.place es) (upd q i m) (by rw [Di];exact aA _)
     (by rw [aD Ab,bS,h0];rfl)
     (by rw [aD hik,bS,hb];rfl)
     ⟨fun j x hj hjk hx=>by
      by_cases hji:i=j
      ·subst hji
       rw [aS (by simpa using Cg)] at hx
       obtain rfl:=aC hx
       rw [upd_same,ot]
       exact hq'
      ·rw [aD hji,bS] at hx
       obtain⟨y,hy,rfl⟩:=aJ.1 hx
       have hqj:=hO.old j y hj hjk hy
       rw [woken_quitsD hqj,upd_ne q m (bW hji),x9 t hji _ (fun op Bt=>B6 Bt)]
       exact hqj,fun j hj=>by
      rw [x9 t (g':=i) (by simp at hj;omega) _ (fun op Bt=>B6 Bt)]
      exact hO.above j (by simpa using hj)⟩ hJ''
    exact⟨N+1,gs'',a'',b'',Hx,sl'',t'',q'',by simp only [runNT,Dk,hrunT];exact hr,hz.trans Di,x0,xb,xF,xO⟩
end
def Hy(Wg:Nat)(l:Loc):Prop:=∃a,l=.cell a/\a.block=Wg
def kindOf:Obj->Option s8
 | .cells _ e _=>lp e
 | _=>od
structure Jy(w w':qq):Prop where
 size:w.heap.size<=w'.heap.size
 kind:∀(i:Nat) (o:Obj),w.heap[i]? = lp o->∃o',w'.heap[i]? = lp o'/\kindOf o'=kindOf o
theorem Jy.refl(w:qq):Jy w w:=⟨aA _,fun i o h=>⟨o,h,rfl⟩⟩
theorem Jy.at(w:qq)(d:Nat):Jy w (w.at d):=⟨aA _,fun i o h=>⟨o,h,rfl⟩⟩
structure Tc(Shun:Loc->Prop)(Wg Ch:Nat)(LA LB:qq->Loc->Bool->Prop):Prop where
 apart:∀w l x y,LA w l x->LB w l y->x=vp/\y=vp
 aOut:∀w l x,LA w l x->¬Hy Wg l/\l≠.obj Ch/\¬Shun l
 bOut:∀w l x,LB w l x->¬Hy Wg l/\l≠.obj Ch/\¬Shun l
 aGrow:∀w w' l x,Jy w w'->LA w l x->LA w' l x
 bGrow:∀w w' l x,Jy w w'->LB w l x->LB w' l x
 wgS:∀l,Hy Wg l->¬Shun l
 chS:¬Shun (.obj Ch)
section
variable (Shun:Loc->Prop) (k Wg Ch:Nat) (LA LB:qq->Loc->Bool->Prop)
structure TI(t:bd)(w:qq)(dA dB:Nat):Prop where
 clean:∀said,¬Race said t
 knA:∀i a,ic t i=lp a->a.loc.isMemory=s7->Knows t 0 i∨(Shun a.loc/\a.kind=.atomic)∨(t.g? i=lp k/\(LB w a.loc a.write∨((Hy Wg a.loc∨a.loc=.obj Ch)/\a.kind=.atomic)))
 knB:∀i a,ic t i=lp a->a.loc.isMemory=s7->Knows t k i∨(Shun a.loc/\a.kind=.atomic)∨(t.g? i=lp 0/\(LA w a.loc a.write∨(Hy Wg a.loc/\a.kind≠.plain)∨(a.loc=.obj Ch/\a.kind=.atomic)))
 over:∀i g,t.g? i=lp g->g≠0->g≠k->t.counts i->∃j,t.g? j=lp 0/\qu t i j
 dA:pj t 0=dA
 dB:pj t k=dB
 seen:∀op∈t,op.act.low w.heap.size
end
section
variable {Shun:Loc->Prop} {k Wg Ch:Nat} {LA LB:qq->Loc->Bool->Prop} {t u:bd} {w w':qq} {dA dB:Nat}
theorem Np{k:Nat}(h:∀i g,t.g? i=lp g->g≠0->g≠k->t.counts i->∃j,t.g? j=lp 0/\qu t i j)(hu:∀op∈u,op.g=0∨op.g=k∨op.act.touch? = od) :
  ∀i g,(t++u).g? i=lp g->g≠0->g≠k->(t++u).counts i->∃j,(t++u).g? j=lp 0/\qu (t++u) i j:=by
 intro i g hg Cu hnk hc
 obtain⟨x,hx,hx2⟩:=hc
 obtain⟨op,Bt,hox⟩:=yx hx
 rcases getElem?_append_cases Bt with⟨hi,hop'⟩|⟨_,hopu⟩
 ·obtain⟨j,hj,hb⟩:=h i g (by simpa [pg,getElem?_append_old hi] using hg) Cu hnk ((counts_old hi).1 ⟨x,hx,hx2⟩)
  have hjl:j<t.size:=by
   unfold pg at hj
   obtain⟨z,hz,_⟩:=aJ.1 hj
   exact lt_size_of_getElem? hz
  exact⟨j,by simpa [pg,getElem?_append_old hjl] using hj,kh u hb⟩
 ·have hgo:op.g=g:=by simpa [pg,Bt] using hg
  rcases hu op hopu with h0|h0|h0
  ·exact absurd (hgo.symm.trans h0) Cu
  ·exact absurd (hgo.symm.trans h0) hnk
  ·rw [h0] at hox;cases hox
theorem Rr{t u:bd}{i:Nat}{g:Nat}(h:t.g? i=lp g):(t++u).g? i=lp g:=by
 unfold pg at h
 obtain⟨z,hz,hzg⟩:=aJ.1 h
 rw [g?_old (lt_size_of_getElem? hz)]
 unfold pg
 rw [hz];exact aG lp hzg
theorem Oh(h:∀op∈t,op.act.low w.heap.size)(hs:w.heap.size<=w'.heap.size)(hu:∀op∈u,op.act.low w'.heap.size):∀op∈t++u,op.act.low w'.heap.size:=
 seen_app (fun op Bt=>MemAct.low_mono hs (h op Bt)) hu
theorem TI.appA(Q:Tc Shun Wg Ch LA LB)(hk:0<k)(h:TI Shun k Wg Ch LA LB t w dA dB)(hg:Jy w w')(hu:∀op∈u,op.g=0){dA':Nat}(hs:∀op∈u,∀b,op.act.touch? = lp b->b.loc.isMemory=s7->LA w' b.loc b.write∨(Hy Wg b.loc/\b.kind≠.plain)∨(b.loc=.obj Ch/\b.kind=.atomic))(hd:pj (t++u) 0=dA')(hl:∀op∈u,op.act.low w'.heap.size):TI Shun k Wg Ch LA LB (t++u) w' dA' dB:=by
 refine⟨fun said=>noRace_append (h.clean said) hu fun i a ha op Bt b hb hc=>?_,fun i a ha hm=>?_,fun i a ha hm=>?_,Np h.over fun op Bt=>af (hu op Bt),hd,?_,Oh h.seen hg.size hl⟩
 ·have hm:b.loc.isMemory=s7:=hc.1▸hc.2.1
  rcases h.knA i a ha hc.2.1 with hk'|⟨hsa,_⟩|⟨_,hB⟩
  ·exact hk'
  ·exfalso
   rcases hs op Bt b hb hm with h1|⟨h1,_⟩|⟨h1,_⟩
   ·exact(Q.aOut _ _ _ h1).2.2 (hc.1▸hsa)
   ·exact Q.wgS _ h1 (hc.1▸hsa)
   ·exact Q.chS (h1▸hc.1▸hsa)
  ·exfalso
   obtain⟨e,_,hw,hcase⟩:=hc
   rcases hB with hB|⟨hB,hat⟩
   ·rcases hs op Bt b hb hm with h1|⟨h1,_⟩|⟨h1,_⟩
    ·have:=Q.apart w' b.loc b.write a.write h1 (e▸Q.bGrow _ _ _ _ hg hB)
     rcases hw with hw|hw
     ·rw [this.2] at hw;cases hw
     ·rw [this.1] at hw;cases hw
    ·exact(Q.bOut _ _ _ hB).1 (e▸h1)
    ·exact(Q.bOut _ _ _ hB).2.1 (e.trans h1)
   ·rcases hs op Bt b hb hm with h1|⟨h1,hnp⟩|⟨h1,hat'⟩
    ·rcases hB with hB|hB
     ·exact(Q.aOut _ _ _ h1).1 (e▸hB)
     ·exact(Q.aOut _ _ _ h1).2.1 (e▸hB)
    ·rw [hat] at hcase
     rcases hcase with x|x|⟨_,x,_⟩
     ·cases x
     ·exact hnp x
     ·cases x
    ·rw [hat] at hcase
     rw [hat'] at hcase
     rcases hcase with x|x|⟨_,x,_⟩
     ·cases x
     ·cases x
     ·cases x
 ·obtain⟨x,hx,hxa⟩:=yx ha
  rcases getElem?_append_cases hx with⟨_,hx'⟩|⟨_,hxu⟩
  ·exact N06
  ·have:=knows_own hx
   rw [hu x hxu] at this
   exact af this
 ·obtain⟨x,hx,hxa⟩:=yx ha
  rcases getElem?_append_cases hx with⟨_,hx'⟩|⟨_,hxu⟩
  ·exact B1o
  ·exact o5 (o5 ⟨by simp [pg,hx,hu x hxu],hs x hxu a hxa hm⟩)
 ·rw [←h.dB]
  exact x9 t (g:=k) (g':=0) Ab u hu
theorem TI.appB(Q:Tc Shun Wg Ch LA LB)(hk:0<k)(h:TI Shun k Wg Ch LA LB t w dA dB)(hg:Jy w w')(hu:∀op∈u,op.g=k){dB':Nat}(hs:∀op∈u,∀b,op.act.touch? = lp b->b.loc.isMemory=s7->LB w' b.loc b.write∨((Hy Wg b.loc∨b.loc=.obj Ch)/\b.kind=.atomic))(hd:pj (t++u) k=dB')(hl:∀op∈u,op.act.low w'.heap.size):TI Shun k Wg Ch LA LB (t++u) w' dA dB':=by
 refine⟨fun said=>noRace_append (h.clean said) hu fun i a ha op Bt b hb hc=>?_,fun i a ha hm=>?_,fun i a ha hm=>?_,Np h.over fun op Bt=>o5 (af (hu op Bt)),?_,hd,Oh h.seen hg.size hl⟩
 ·have hm:b.loc.isMemory=s7:=hc.1▸hc.2.1
  rcases h.knB i a ha hc.2.1 with hk'|⟨hsa,_⟩|⟨_,hB⟩
  ·exact hk'
  ·exfalso
   rcases hs op Bt b hb hm with h1|⟨h1|h1,_⟩
   ·exact(Q.bOut _ _ _ h1).2.2 (hc.1▸hsa)
   ·exact Q.wgS _ h1 (hc.1▸hsa)
   ·exact Q.chS (h1▸hc.1▸hsa)
  ·exfalso
   obtain⟨e,_,hw,hcase⟩:=hc
   rcases hB with hB|⟨hB,hnp⟩|⟨hB,hatA⟩
   ·rcases hs op Bt b hb hm with h1|⟨h1|h1,_⟩
    ·have:=Q.apart w' b.loc a.write b.write (e▸Q.aGrow _ _ _ _ hg hB) h1
     rcases hw with hw|hw
     ·rw [this.1] at hw;cases hw
     ·rw [this.2] at hw;cases hw
    ·exact(Q.aOut _ _ _ hB).1 (e▸h1)
    ·exact(Q.aOut _ _ _ hB).2.1 (e.trans h1)
   ·rcases hs op Bt b hb hm with h1|⟨_,hat⟩
    ·exact(Q.bOut _ _ _ h1).1 (e▸hB)
    ·rw [hat] at hcase
     rcases hcase with x|x|⟨_,_,x⟩
     ·exact hnp x
     ·cases x
     ·cases x
   ·rcases hs op Bt b hb hm with h1|⟨_,hat⟩
    ·exact(Q.bOut _ _ _ h1).2.1 (e.symm.trans hB)
    ·rw [hat,hatA] at hcase
     rcases hcase with x|x|⟨_,_,x⟩
     ·cases x
     ·cases x
     ·cases x
 ·obtain⟨x,hx,hxa⟩:=yx ha
  rcases getElem?_append_cases hx with⟨_,hx'⟩|⟨_,hxu⟩
  ·exact N06
  ·exact o5 (o5 ⟨by simp [pg,hx,hu x hxu],hs x hxu a hxa hm⟩)
 ·obtain⟨x,hx,hxa⟩:=yx ha
  rcases getElem?_append_cases hx with⟨_,hx'⟩|⟨_,hxu⟩
  ·exact B1o
  ·have:=knows_own hx
   rw [hu x hxu] at this
   exact af this
 ·rw [←h.dA]
  exact x9 t (g:=0) (g':=k) Ab u hu
theorem TI.appMute(Q:Tc Shun Wg Ch LA LB)(h:TI Shun k Wg Ch LA LB t w dA dB)(hg:Jy w w')(hn:∀op∈u,op.act.touch? = od)(hd0:pj (t++u) 0=pj t 0)(hdk:pj (t++u) k=pj t k)(hl:∀op∈u,op.act.low w'.heap.size):TI Shun k Wg Ch LA LB (t++u) w' dA dB:=by
 have old:∀i a,ic (t++u) i=lp a->ic t i=lp a:=fun i a ha=>by
  obtain⟨x,hx,hxa⟩:=yx ha
  rcases getElem?_append_cases hx with⟨_,hx'⟩|⟨_,hxu⟩
  ·rw [ub hx'];exact hxa
  ·rw [hn x hxu] at hxa;cases hxa
 refine⟨fun said=>?_,fun i a ha hm=>?_,fun i a ha hm=>?_,Np h.over fun op Bt=>o5 (o5 (hn op Bt)),hd0.trans h.dA,hdk.trans h.dB,Oh h.seen hg.size hl⟩
 ·rintro⟨i,j,hij,⟨a,b,ha,hb,hc⟩,n1,n2⟩
  exact h.clean said ⟨i,j,hij,⟨a,b,old i a ha,old j b hb,hc⟩,fun e=>n1 (kh u e),fun e=>n2 (kh u e)⟩
 ·rcases h.knA i a (old i a ha) hm with h1|h1|⟨h1,h2⟩
  ·exact af (h1.app u)
  ·exact o5 (af h1)
  ·exact o5 (o5 ⟨Rr h1,h2.imp (Q.bGrow _ _ _ _ hg) id⟩)
 ·rcases h.knB i a (old i a ha) hm with h1|h1|⟨h1,h2⟩
  ·exact af (h1.app u)
  ·exact o5 (af h1)
  ·exact o5 (o5 ⟨Rr h1,h2.imp (Q.aGrow _ _ _ _ hg) id⟩)
theorem TI.grow(Q:Tc Shun Wg Ch LA LB)(h:TI Shun k Wg Ch LA LB t w dA dB)(hg:Jy w w'):TI Shun k Wg Ch LA LB t w' dA dB:=by
 have:=h.appMute (u:=#[]) Q hg Ae Ae Ae Ae
 simpa using this
end
def Gq(Wg:Nat):Addr:=⟨Wg,0,od⟩
def Yi(Wg:Nat):Addr:=⟨Wg,1,od⟩
def Pt(m:Mark):p6:=⟨.mark m,vp,s7⟩
def Yh(a:Addr):p6:=⟨.cell a,vp,s7⟩
def QY(a:Addr):p6:=⟨.cell a,s7,s7⟩
structure RI(k Wg:Nat)(t:bd)(r:Nat):Prop where
 act:t.act? r=lp (.mark (.releaseMerge (Gq Wg)))
 g:t.g? r=lp k
 heard:t.heard r
 late:∀i a,r<i->t.g? i=lp k->ic t i=lp a->Hy Wg a.loc/\a.kind=.atomic/\0<t.deaf k i
 norel:∀i,r<i->t.act? i≠lp (.mark (.release (Gq Wg)))
section
variable {Shun:Loc->Prop} {k Wg Ch:Nat} {LA LB:qq->Loc->Bool->Prop} {t u:bd} {w w':qq} {dA dB r:Nat}
theorem RI.app(h:RI k Wg t r)(hn:∀op∈u,op.act≠.mark (.release (Gq Wg)))(hu:∀i a,t.size<=i->(t++u).g? i=lp k->ic (t++u) i=lp a->Hy Wg a.loc/\a.kind=.atomic/\0<(t++u).deaf k i):RI k Wg (t++u) r:=by
 have hr:=lt_of_act? h.act
 refine⟨by rw [act?_old hr];exact h.act,Rr h.g,(uk hr).2 h.heard,fun i a hi hg ha=>?_,fun i hi e=>?_⟩
 ·rcases cO i t.size with Cg|hge
  ·have:=h.late i a hi (by rwa [g?_old Cg] at hg) (by rwa [touchAt_old Cg] at ha)
   rw [deaf_old (dN Cg)]
   exact this
  ·exact hu i a hge hg ha
 ·obtain⟨op,ho,hoa⟩:=aJ.1 e
  rcases getElem?_append_cases ho with⟨Cg,ho'⟩|⟨_,hou⟩
  ·exact h.norel i hi (by rw [act?_of ho',hoa])
  ·exact hn op hou hoa
theorem RI.appOther(h:RI k Wg t r)(hu:∀op∈u,op.g≠k/\op.act≠.mark (.release (Gq Wg))):RI k Wg (t++u) r:=
 h.app (fun op Bt=>(hu op Bt).2) fun i a hi hg _=>by
  obtain⟨op,ho,hog⟩:=aJ.1 hg
  rcases getElem?_append_cases ho with⟨Cg,_⟩|⟨_,hou⟩
  ·omega
  ·exact absurd hog (hu op hou).1
theorem RI.appOwn(h:RI k Wg t r)(fn:du)(pos:String)(es:Array p6)(hn:∀e∈es,e.loc≠.mark (.release (Gq Wg)))(Hf:∀j e,es[j]? = lp e->(MemAct.ofEvent e).touch? = od∨((∃ad wr,e=⟨.cell ad,wr,s7⟩/\ad.block=Wg)/\0<deafBehind (pj t k) (es.extract 0 j))):RI k Wg (t++MemOp.ofEvents k fn pos es) r:=by
 refine h.app (fun op Bt e=>?_) fun i a hi hg ha=>?_
 ·obtain⟨x,hx,rfl⟩:=mv Bt
  refine hn x hx ?_
  obtain⟨loc,wr,sy⟩:=x
  cases loc with
  | mark m=>cases wr <;> cases sy <;> simp [MemAct.ofEvent] at e <;> rw [e]
  | obj c=>cases wr <;> cases sy <;> simp [MemAct.ofEvent] at e
  | _=>simp [MemAct.ofEvent] at e
 ·obtain⟨op,ho,hxt⟩:=yx ha
  have hj:(MemOp.ofEvents k fn pos es)[i - t.size]? = lp op:=by
   rw [Array.getElem?_append] at ho
   simpa [Nat.not_lt.2 hi] using ho
  rw [ofEvents_eq,bS] at hj
  obtain⟨e,he,rfl⟩:=aJ.1 hj
  have hjs:i - t.size<=es.size:=by
   rcases cO (i - t.size) es.size with h'|h'
   ·omega
   ·rw [cA h'] at he;cases he
  rcases Hf _ e he with h0|⟨⟨ad,wr,rfl,had⟩,hd⟩
  ·simp only at hxt;rw [h0] at hxt;cases hxt
  ·have:=deaf_inside t k fn pos es (i - t.size) hjs
   rw [show t.size+(i - t.size)=i by omega] at this
   rw [this]
   cases wr <;> simp [MemAct.ofEvent,MemAct.touch?] at hxt <;> subst hxt <;> exact⟨⟨ad,rfl,had⟩,rfl,hd⟩
theorem ofEvents_one(g:Nat)(fn:du)(pos:String)(m:Mark):MemOp.ofEvents g fn pos #[Pt m]=#[{ g,fn,pos,act:=.mark m }]:=by
 rw [ofEvents_eq]
 simp [Pt,MemAct.ofEvent]
theorem RI.new(hd:pj t k=0)(fn:du)(pos:String):RI k Wg (t++MemOp.ofEvents k fn pos #[Pt (.releaseMerge (Gq Wg))]) t.size:=by
 rw [ofEvents_one]
 have hy:(t++#[({ g:=k,fn,pos,act:=.mark (.releaseMerge (Gq Wg)) }:MemOp)])[t.size]? = lp { g:=k,fn,pos,act:=.mark (.releaseMerge (Gq Wg)) }:=Ae
 have od:∀i,t.size<i->(t++#[({ g:=k,fn,pos,act:=.mark (.releaseMerge (Gq Wg)) }:MemOp)])[i]? = od:=fun i hi=>by
  rw [cA]
  simp;omega
 refine⟨by rw [act?_of hy],by simp [pg],⟨k,by simp [pg],by rw [deaf_old (aA _)];exact hd⟩,fun i a hi hg _=>?_,fun i hi e=>?_⟩
 ·unfold pg at hg
  rw [od i hi] at hg
  cases hg
 ·unfold Trace.act? at e
  rw [od i hi] at e
  cases e
theorem TI.join(hk:0<k)(h:TI Shun k Wg Ch LA LB t w 0 dB)(R:RI k Wg t r)(fn:du)(pos:String)(hW:Wg<w.heap.size) :
  Past (fun l=>Shun l∨Hy Wg l) w.heap.size (t++MemOp.ofEvents 0 fn pos #[Pt (.acquire (Gq Wg))]):=by
 rw [ofEvents_one]
 have hy:(t++#[({ g:=0,fn,pos,act:=.mark (.acquire (Gq Wg)) }:MemOp)])[t.size]? = lp { g:=0,fn,pos,act:=.mark (.acquire (Gq Wg)) }:=Ae
 have hr:=lt_of_act? R.act
 obtain⟨opr,hor,hra⟩:=aJ.1 R.act
 have hrg:opr.g=k:=by
  have:=R.g
  simpa [pg,hor] using this
 have hrq:qu (t++#[({ g:=0,fn,pos,act:=.mark (.acquire (Gq Wg)) }:MemOp)]) r t.size:=
  .single (o5 ⟨.marked (a:=Gq Wg) hr (o5 (by rw [act?_old hr];exact R.act)) (by rw [act?_of hy]) (fun j h1 h2=>by rw [act?_old h2];exact R.norel j h1),
   (uk hr).2 R.heard,⟨0,by simp [pg],by rw [deaf_old (aA _)];exact h.dA⟩⟩)
 have early:∀i op,t[i]? = lp op->op.g=k->i<r->qu (t++#[({ g:=0,fn,pos,act:=.mark (.acquire (Gq Wg)) }:MemOp)]) i t.size:=fun i op hi hg Cg=>
  (kh _ (hb_po Cg hi hor (hg.trans hrg.symm))).trans hrq
 have old:∀i a,ic (t++#[({ g:=0,fn,pos,act:=.mark (.acquire (Gq Wg)) }:MemOp)]) i=lp a->i<t.size/\ic t i=lp a:=fun i a ha=>by
  obtain⟨x,hx,hxa⟩:=yx ha
  rcases getElem?_append_cases hx with⟨Cg,hx'⟩|⟨_,hxu⟩
  ·exact⟨Cg,by rw [ub hx'];exact hxa⟩
  ·have:x = { g:=0,fn,pos,act:=.mark (.acquire (Gq Wg)) }:=by simpa using hxu
   rw [this] at hxa;cases hxa
 refine⟨fun said=>?_,fun i a ha hm=>?_,fun i g hg Cu hc=>?_,?_,?_⟩
 ·rintro⟨i,j,hij,⟨a,b,ha,hb,hc⟩,n1,n2⟩
  exact h.clean said ⟨i,j,hij,⟨a,b,(old i a ha).2,(old j b hb).2,hc⟩,fun e=>n1 (kh _ e),fun e=>n2 (kh _ e)⟩
 ·obtain⟨Cg,ha'⟩:=old i a ha
  rcases h.knA i a ha' hm with h1|⟨h1,h2⟩|⟨h1,h2⟩
  ·exact af (h1.app _)
  ·exact o5 ⟨af h1,h2⟩
  ·obtain⟨op,ho,hog⟩:=aJ.1 h1
   rcases Nat.lt_trichotomy i r with hlt'|rfl|hgt
   ·exact af ⟨t.size,_,hy,rfl,o5 (early i op ho hog hlt')⟩
   ·rw [hor] at ho
    obtain rfl:=aC ho
    rw [ub hor,hra] at ha'
    cases ha'
   ·obtain⟨x1,x2,_⟩:=R.late i a hgt h1 ha'
    exact o5 ⟨o5 x1,x2⟩
 ·obtain⟨x,hx,hx1,hx2⟩:=hc
  obtain⟨Cg,hx'⟩:=old i x hx
  have hg':t.g? i=lp g:=by rwa [g?_old Cg] at hg
  by_cases hgk:g=k
  ·subst hgk
   obtain⟨op,ho,hog⟩:=aJ.1 hg'
   rcases Nat.lt_trichotomy i r with hlt'|rfl|hgt
   ·exact⟨t.size,by simp [pg],early i op ho hog hlt'⟩
   ·rw [hor] at ho
    obtain rfl:=aC ho
    rw [ub hor,hra] at hx'
    cases hx'
   ·obtain⟨_,y2,y3⟩:=R.late i x hgt hg' hx'
    exfalso
    rcases hx2 with hx2|hx2
    ·exact hx2 y2
    ·obtain⟨g1,e1,e2⟩:=(uk Cg).1 hx2
     rw [hg'] at e1
     obtain rfl:=aC e1
     omega
  ·obtain⟨j,hj,hb⟩:=h.over i g hg' Cu hgk ⟨x,hx',hx1,hx2.imp id (uk Cg).1⟩
   exact⟨j,Rr hj,kh _ hb⟩
 ·rw [Deaf_push]
  exact h.dA
 ·refine seen_app h.seen fun op Bt=>?_
  have:op = { g:=0,fn,pos,act:=.mark (.acquire (Gq Wg)) }:=by simpa using Bt
  rw [this]
  exact hW
end
def B7:Obj->Prop
 | .pending _ _=>False
 | .view _ _=>False
 | _=>True
structure Gf(K:Nat->Obj->Prop)(w w':qq):Prop where
 tape:w'.tape=w.tape
 os:w'.os=w.os
 output:w'.output=w.output
 size:w.heap.size<=w'.heap.size
 keep:∀(i:Nat) (o:Obj),w.heap[i]? = lp o->K i o->w'.heap[i]? = lp o
 far:∀(i:Nat) (o:Obj),w'.heap[i]? = lp o->¬B7 o->w.heap[i]? = lp o
theorem Gf.refl(K:Nat->Obj->Prop)(w:qq):Gf K w w:=⟨rfl,rfl,rfl,aA _,fun _ _ h _=>h,fun _ _ h _=>h⟩
theorem Gf.trans{K:Nat->Obj->Prop}{a b c:qq}(h:Gf K a b)(h':Gf K b c):Gf K a c:=
 ⟨h'.tape.trans h.tape,h'.os.trans h.os,h'.output.trans h.output,aE h.size h'.size,fun i o e k=>h'.keep i o (h.keep i o e k) k,fun i o e n=>h.far i o (h'.far i o e n) n⟩
theorem Gf.at(K:Nat->Obj->Prop)(w:qq)(d:Nat):Gf K w (w.at d):=⟨rfl,rfl,rfl,aA _,fun _ _ h _=>h,fun _ _ h _=>h⟩
def KK:Int:=4294967296
def KY(ty:s8)(st sm:Int):Obj:=.cells #[.int .u64 st,.int .u32 sm] ty
def D3(ty:s8)(Wg:Nat)(w:qq)(st sm:Int):Prop:=w.heap[Wg]? = lp (KY ty st sm)
def Dq(ty:s8)(Wg:Nat)(w:qq):Prop:=∃st sm,D3 ty Wg w st sm
def Wy(ty:s8)(Wg Ch:Nat)(w:qq):Prop:=Dq ty Wg w/\∃s r tm,w.heap[Ch]? = lp (.chan 0 #[] s7 s r tm)
structure Pu where
 P:me
 Shun:Loc->Prop
 k:Nat
 Wg:Nat
 Ch:Nat
 ty:s8
 LA:qq->Loc->Bool->Prop
 LB:qq->Loc->Bool->Prop
 KA:Nat->Obj->Prop
 KB:Nat->Obj->Prop
 β:Type
 Msg:β->tj->qq->Prop
 FB:List (β×tj)->qq->Prop
 PostA:List (β×tj)->gq->qq->Prop
structure Pu.Ok(C:Pu):Prop where
 hk:0<C.k
 parts:Tc C.Shun C.Wg C.Ch C.LA C.LB
 neq:C.Wg≠C.Ch
 ka:∀i o,C.KA i o->i≠C.Wg/\i≠C.Ch
 kb:∀i o,C.KB i o->i≠C.Wg/\i≠C.Ch
 msgB:∀b v w w',Gf C.KB w w'->C.Msg b v w->C.Msg b v w'
 fbB:∀sent w w',Gf C.KB w w'->C.FB sent w->C.FB sent w'
 postAt:∀sent g w d,C.PostA sent g (w.at d)↔C.PostA sent g w
def RO(L:qq->Loc->Bool->Prop)(w':qq)(e:p6):Prop:=
 (∃m,e.loc=.mark m/\Neutral m)∨(∃a wr,e=⟨.cell a,wr,vp⟩/\L w' (.cell a) wr/\a.block<w'.heap.size)
section
variable (C:Pu) (sent:List (C.β×tj))
structure RA(w w₁:qq):Prop where
 keep:Gf C.KA w w₁
 wg:Dq C.ty C.Wg w->Dq C.ty C.Wg w₁
 msg:∀x∈sent,C.Msg x.1 x.2 w->C.Msg x.1 x.2 w₁
structure RB(w w₁:qq):Prop where
 keep:Gf C.KB w w₁
 wg:Dq C.ty C.Wg w->Dq C.ty C.Wg w₁
structure DA(w w':qq)(es:Array p6):Prop where
 keep:Gf C.KB w w'
 grow:Jy w w'
 wg:w'.heap[C.Wg]? = w.heap[C.Wg]?
 ch:w'.heap[C.Ch]? = w.heap[C.Ch]?
 ev:∀e∈es,RO C.LA w' e
structure DB(w w':qq)(es:Array p6):Prop where
 keep:Gf C.KA w w'
 msg:∀x∈sent,C.Msg x.1 x.2 w->C.Msg x.1 x.2 w'
 grow:Jy w w'
 wg:w'.heap[C.Wg]? = w.heap[C.Wg]?
 ch:w'.heap[C.Ch]? = w.heap[C.Ch]?
 ev:∀e∈es,RO C.LB w' e
abbrev D0:qq->qq->Array p6->Prop:=Go.ConcX.DC0
theorem D0.da{w w':qq}{es:Array p6}(h:D0 w w' es):DA C w w' es:=by
 obtain⟨rfl,rfl⟩:=h
 exact⟨.refl _ _,.refl _,rfl,rfl,Ae⟩
theorem D0.db{w w':qq}{es:Array p6}(h:D0 w w' es):DB C sent w w' es:=by
 obtain⟨rfl,rfl⟩:=h
 exact⟨.refl _ _,fun _ _ h=>h,.refl _,rfl,rfl,Ae⟩
theorem RA.refl(w:qq):RA C sent w w:=⟨.refl _ _,id,fun _ _ h=>h⟩
theorem RB.refl(w:qq):RB C w w:=⟨.refl _ _,id⟩
variable {C sent} in
theorem RA.trans{a b c:qq}(h:RA C sent a b)(h':RA C sent b c):RA C sent a c:=⟨h.keep.trans h'.keep,fun x=>h'.wg (h.wg x),fun x hx m=>h'.msg x hx (h.msg x hx m)⟩
variable {C} in
theorem RB.trans{a b c:qq}(h:RB C a b)(h':RB C b c):RB C a c:=⟨h.keep.trans h'.keep,fun x=>h'.wg (h.wg x)⟩
def BD4(g:gq)(w:qq):Prop:=
 g.status=.running/\((∃st,D3 C.ty C.Wg w st 0)->∃g',stepG C.P vp g w=.go g' (w.setCell (Yi C.Wg) (.int .u32 1)) (semEvents (Yi C.Wg))/\mayWake C.P g=s7/\∃q,QuitsD C.P q 1 g')
def BD3(g:gq)(w:qq):Prop:=
 g.status=.running/\((∃st,D3 C.ty C.Wg w st 0)->∃g',stepG C.P vp g w=.go g' (w.setCell (Gq C.Wg) (.int .u64 0)) #[QY (Gq C.Wg)]/\∃m,bf C.P vp (RB C) D0 (BD4 C) m g' (w.setCell (Gq C.Wg) (.int .u64 0)))
def BD2(g:gq)(w:qq):Prop:=
 g.status=.running/\(D3 C.ty C.Wg w 1 0->∃g',stepG C.P vp g w=.go g' w #[Yh (Gq C.Wg)]/\∃m,bf C.P vp (RB C) D0 (BD3 C) m g' w)
def BD1(g:gq)(w:qq):Prop:=
 g.status=.running /\
  (D3 C.ty C.Wg w KK 0->∃g',stepG C.P vp g w=.go g' (w.setCell (Gq C.Wg) (.int .u64 0)) #[Yh (Gq C.Wg),QY (Gq C.Wg)]/\∃q,QuitsD C.P q 1 g') /\
  (D3 C.ty C.Wg w (KK+1) 0->∃g',stepG C.P vp g w=.go g' (w.setCell (Gq C.Wg) (.int .u64 1)) #[Yh (Gq C.Wg),QY (Gq C.Wg)]/\∃m,bf C.P vp (RB C) D0 (BD2 C) m g' (w.setCell (Gq C.Wg) (.int .u64 1)))
def BK1(g:gq)(w:qq):Prop:=
 g.status=.running/\∃g',stepG C.P vp g w=.go g' w #[Pt .disable]/\∃m,bf C.P vp (RB C) D0 (BD1 C) m g' w
def RN(g:gq)(w:qq):Prop:=
 g.status=.running/\C.FB sent w/\∃g',stepG C.P vp g w=.go g' w #[Pt (.releaseMerge (Gq C.Wg))]/\∃m,bf C.P vp (RB C) D0 (BK1 C) m g' w
def BG(g:gq)(w:qq):Prop:=
 g.status=.running/\mayWake C.P g=s7/\∀s r tm,w.heap[C.Ch]? = lp (.chan 0 #[] vp s r tm) ->
  ∃g₂,stepG C.P vp g w=.go g₂ (w.shut C.Ch s r tm) #[⟨.obj C.Ch,vp,s7⟩,⟨.obj C.Ch,s7,s7⟩]/\g₂.status=.running/\∃m,bf C.P vp (RB C) (DB C sent) (RN C sent) m g₂ (w.shut C.Ch s r tm)
def VK(b:C.β)(Next:tj->gq->qq->Prop)(g:gq)(w:qq):Prop:=
 g.status=.running/\∃v z,stepG C.P vp g w=.comm (core g) #[mh C.Ch v z] s7 .send w #[]/\C.Msg b v w/\∀w₂,RB C w w₂->Next v (ay (core g) undef) w₂
def Aaj(g:gq)(w:qq):Prop:=
 g.status=.running/\∃g',stepG C.P s7 g w=.go g' w #[Pt (.acquire (Gq C.Wg))]/\g'.status=.running/\C.PostA sent g' w
def AKe(g:gq)(w:qq):Prop:=
 g.status=.running/\∃g',stepG C.P s7 g w=.go g' w #[Pt .enable]/\∃m,bf C.P s7 (RA C sent) D0 (Aaj C sent) m g' w
def AW4(g:gq)(w:qq):Prop:=
 g.status=.running/\(D3 C.ty C.Wg w 0 0->∃g',stepG C.P s7 g w=.go g' w #[Yh (Gq C.Wg)]/\∃m,bf C.P s7 (RA C sent) D0 (AKe C sent) m g' w)
def AW3(g:gq)(w:qq):Prop:=
 g.status=.running/\g.offers=od /\
  ((∃st,D3 C.ty C.Wg w st 0)->stepG C.P s7 g w=.go { g with status:=.blocked } w #[]) /\
  (D3 C.ty C.Wg w 0 1->∃g',stepG C.P s7 g w=.go g' (w.setCell (Yi C.Wg) (.int .u32 0)) (semEvents (Yi C.Wg))/\∃m,bf C.P s7 (RA C sent) D0 (AW4 C sent) m g' (w.setCell (Yi C.Wg) (.int .u32 0)))
def AWm(g:gq)(w:qq):Prop:=
 g.status=.running/\∃g',stepG C.P s7 g w=.go g' w #[Pt (.write (Yi C.Wg))]/\∃m,bf C.P s7 (RA C sent) D0 (AW3 C sent) m g' w
def AWz(g:gq)(w:qq):Prop:=
 g.status=.running/\(D3 C.ty C.Wg w 0 0->∃g',stepG C.P s7 g w=.go g' w #[Yh (Gq C.Wg)]/\∃m,bf C.P s7 (RA C sent) D0 (AKe C sent) m g' w)
def AW2(g:gq)(w:qq):Prop:=
 g.status=.running /\
  (D3 C.ty C.Wg w KK 0->∃g',stepG C.P s7 g w=.go g' (w.setCell (Gq C.Wg) (.int .u64 (KK+1))) #[Yh (Gq C.Wg),QY (Gq C.Wg)]/\∃m,bf C.P s7 (RA C sent) D0 (AWm C sent) m g' (w.setCell (Gq C.Wg) (.int .u64 (KK+1)))) /\
  (D3 C.ty C.Wg w 0 0->∃g',stepG C.P s7 g w=.go g' w #[Yh (Gq C.Wg)]/\∃m,bf C.P s7 (RA C sent) D0 (AWz C sent) m g' w)
def AW1(g:gq)(w:qq):Prop:=
 g.status=.running /\
  (D3 C.ty C.Wg w KK 0->∃g',stepG C.P s7 g w=.go g' w #[Yh (Gq C.Wg)]/\∃m,bf C.P s7 (RA C sent) D0 (AW2 C sent) m g' w) /\
  (D3 C.ty C.Wg w 0 0->∃g',stepG C.P s7 g w=.go g' w #[Yh (Gq C.Wg)]/\∃m,bf C.P s7 (RA C sent) D0 (AKe C sent) m g' w)
def AKd(g:gq)(w:qq):Prop:=
 g.status=.running/\∃g',stepG C.P s7 g w=.go g' w #[Pt .disable]/\∃m,bf C.P s7 (RA C sent) D0 (AW1 C sent) m g' w
def WN(g:gq)(w:qq):Prop:=
 g.status=.running/\∃z,stepG C.P s7 g w=.comm (core g) #[e9 C.Ch z] s7 (.recv s7) w #[]/\∀w₂,RA C sent w w₂->∃m,bf C.P s7 (RA C sent) (DA C) (AKd C sent) m (ay (core g) (.tuple #[z,.bool vp])) w₂
def VI(b:C.β)(Next:tj->gq->qq->Prop)(g:gq)(w:qq):Prop:=
 g.status=.running/\∃z,stepG C.P s7 g w=.comm (core g) #[e9 C.Ch z] s7 (.recv s7) w #[]/\∀v w₂,RA C sent w w₂->C.Msg b v w₂->Next v (ay (core g) (.tuple #[v,.bool s7])) w₂
end
section
variable (C:Pu)
def O9:List C.β->List (C.β×tj)->gq->qq->Prop
 | [],sent,g,w=>∃n,bf C.P vp (RB C) (DB C sent) (BG C sent) n g w
 | b :: bs,sent,g,w=>∃n,bf C.P vp (RB C) (DB C sent) (VK C b fun v g' w'=>O9 bs (sent ++ [(b,v)]) g' w') n g w
def Sx:List C.β->List (C.β×tj)->gq->qq->Prop
 | [],sent=>BG C sent
 | b :: bs,sent=>VK C b fun v g' w'=>O9 C bs (sent ++ [(b,v)]) g' w'
theorem Tj(bs:List C.β)(sent:List (C.β×tj))(g:gq)(w:qq):O9 C bs sent g w↔∃n,bf C.P vp (RB C) (DB C sent) (Sx C bs sent) n g w:=by
 cases bs <;> exact Iff.rfl
theorem Sx.running{bs:List C.β}{sent:List (C.β×tj)}{g:gq}{w:qq}(h:Sx C bs sent g w):g.status=.running:=by cases bs <;> exact h.1
def Qq:List C.β->List (C.β×tj)->gq->qq->Prop
 | [],sent,g,w=>∃n,bf C.P s7 (RA C sent) (DA C) (WN C sent) n g w
 | b :: bs,sent,g,w=>∃n,bf C.P s7 (RA C sent) (DA C) (VI C sent b fun v g' w'=>Qq bs (sent ++ [(b,v)]) g' w') n g w
def Jh:List C.β->List (C.β×tj)->gq->qq->Prop
 | [],sent=>WN C sent
 | b :: bs,sent=>VI C sent b fun v g' w'=>Qq C bs (sent ++ [(b,v)]) g' w'
theorem Tf(bs:List C.β)(sent:List (C.β×tj))(g:gq)(w:qq):Qq C bs sent g w↔∃n,bf C.P s7 (RA C sent) (DA C) (Jh C bs sent) n g w:=by
 cases bs <;> exact Iff.rfl
theorem Jh.comm{bs:List C.β}{sent:List (C.β×tj)}{g:gq}{w:qq}(h:Jh C bs sent g w):g.status=.running/\∃z,stepG C.P s7 g w=.comm (core g) #[e9 C.Ch z] s7 (.recv s7) w #[]:=by
 cases bs <;> exact⟨h.1,let⟨z,h1,_⟩:=h.2;⟨z,h1⟩⟩
end
theorem J9{P:me}{main:Bool}{R:qq->qq->Prop}{D D':qq->qq->Array p6->Prop}{Stop:gq->qq->Prop}(hD:∀w w' es,D w w' es->D' w w' es) :
  ∀{n:Nat} {g:gq} {w:qq},bf P main R D Stop n g w->bf P main R D' Stop n g w
 | 0,_,_,h=>h
 | n+1,g,w,h=>by
  rcases h with h|⟨hs,h⟩
  ·exact af h
  ·refine o5 ⟨hs,fun w₁ h₁=>?_⟩
   have:=h w₁ h₁
   revert this
   cases stepG P main g w₁ <;> simp only [GStep.goes,imp_self]
   exact fun⟨d,x⟩=>⟨hD _ _ _ d,J9 hD x⟩
section
variable {L:qq->Loc->Bool->Prop} {w w':qq} {e:p6}
theorem V6(h:RO L w' e){b:Touch}(hb:(MemAct.ofEvent e).touch? = lp b):L w' b.loc b.write:=by
 rcases h with⟨m,hm,hn⟩|⟨a,wr,rfl,hl,_⟩
 ·exfalso
  obtain⟨loc,wr,sy⟩:=e
  simp only at hm
  subst hm
  have e1:MemAct.ofEvent ⟨.mark m,wr,sy⟩=.mark m:=by cases wr <;> cases sy <;> rfl
  rw [e1,hn.touch] at hb
  cases hb
 ·simp only [ofEvent_cell0,MemAct.touch?,aL] at hb
  subst hb
  exact hl
theorem FJ(h:RO L w' e):(MemAct.ofEvent e).low w'.heap.size:=by
 rcases h with⟨m,hm,hn⟩|⟨a,wr,rfl,_,hl⟩
 ·obtain⟨loc,wr,sy⟩:=e
  simp only at hm
  subst hm
  have e1:MemAct.ofEvent ⟨.mark m,wr,sy⟩=.mark m:=by cases wr <;> cases sy <;> rfl
  rw [e1]
  unfold Neutral at hn
  subst hn
  trivial
 ·exact hl
theorem V5(h:RO L w' e):e.loc≠.mark .disable/\e.loc≠.mark .enable:=by
 rcases h with⟨m,hm,hn⟩|⟨a,wr,rfl,_,_⟩
 ·rw [hm]
  exact⟨fun x=>hn.ne_disable (by injection x),fun x=>hn.ne_enable (by injection x)⟩
 ·simp
end
section
variable {C:Pu} {t u:bd} {w w':qq} {dA dB r:Nat} {sent:List (C.β×tj)} {es:Array p6}
abbrev Pu.TI(C:Pu)(t:bd)(w:qq)(dA dB:Nat):Prop:=Pair.TI C.Shun C.k C.Wg C.Ch C.LA C.LB t w dA dB
theorem AO(O:C.Ok)(h:C.TI t w dA dB)(D:DA C w w' es)(fn:du)(pos:String):C.TI (t++MemOp.ofEvents 0 fn pos es) w' dA dB:=by
 refine h.appA O.parts O.hk D.grow (fun op Bt=>B6 Bt) (fun op Bt b hb _=>?_) ?_ (fun op Bt=>?_)
 ·obtain⟨e,he,rfl⟩:=mv Bt
  exact af (V6 (D.ev e he) hb)
 ·rw [ot,tu fun e he=>V5 (D.ev e he)]
  exact h.dA
 ·obtain⟨e,he,rfl⟩:=mv Bt
  exact FJ (D.ev e he)
theorem U8(O:C.Ok)(h:C.TI t w dA dB)(D:DB C sent w w' es)(fn:du)(pos:String):C.TI (t++MemOp.ofEvents C.k fn pos es) w' dA dB:=by
 refine h.appB O.parts O.hk D.grow (fun op Bt=>B6 Bt) (fun op Bt b hb _=>?_) ?_ (fun op Bt=>?_)
 ·obtain⟨e,he,rfl⟩:=mv Bt
  exact af (V6 (D.ev e he) hb)
 ·rw [ot,tu fun e he=>V5 (D.ev e he)]
  exact h.dB
 ·obtain⟨e,he,rfl⟩:=mv Bt
  exact FJ (D.ev e he)
def GK(Wg:Nat)(e:p6):Prop:=(∃a wr,e=⟨.cell a,wr,s7⟩/\a.block=Wg)∨e=Pt .disable∨e=Pt .enable∨e=Pt (.write (Yi Wg))∨e=Pt (.read (Yi Wg))
def GL(Wg:Nat)(e:p6):Prop:=(∃a wr,e=⟨.cell a,wr,s7⟩/\a.block=Wg)∨e=Pt .disable∨e=Pt .enable∨e=Pt (.releaseMerge (Gq Wg))
theorem Kc(a:Addr)(wr:Bool):MemAct.ofEvent ⟨.cell a,wr,s7⟩=.access ⟨.cell a,wr,s7⟩:=rfl
theorem Ku(m:Mark):MemAct.ofEvent (Pt m)=.mark m:=rfl
theorem ZW(O:C.Ok)(h:C.TI t w dA dB)(hg:Jy w w')(hW:C.Wg<w'.heap.size)(Hf:∀e∈es,GK C.Wg e)(fn:du)(pos:String):C.TI (t++MemOp.ofEvents 0 fn pos es) w' (deafBehind dA es) dB:=by
 refine h.appA O.parts O.hk hg (fun op Bt=>B6 Bt) (fun op Bt b hb _=>?_) ?_ (fun op Bt=>?_)
 ·obtain⟨e,he,rfl⟩:=mv Bt
  rcases Hf e he with⟨a,wr,rfl,ha⟩|rfl|rfl|rfl|rfl
  ·simp only [Kc,MemAct.touch?,aL] at hb
   subst hb
   exact o5 (af ⟨⟨a,rfl,ha⟩,Ae⟩)
  ·cases hb
  ·cases hb
  ·exact Ti7
  ·exact Ti7
 ·rw [ot,h.dA]
 ·obtain⟨e,he,rfl⟩:=mv Bt
  rcases Hf e he with⟨a,wr,rfl,ha⟩|rfl|rfl|rfl|rfl
  ·show a.block<_
   rw [ha];exact hW
  ·trivial
  ·trivial
  ·exact hW
  ·exact hW
theorem X9(O:C.Ok)(h:C.TI t w dA dB)(hg:Jy w w')(hW:C.Wg<w'.heap.size)(Hf:∀e∈es,GL C.Wg e)(fn:du)(pos:String):C.TI (t++MemOp.ofEvents C.k fn pos es) w' dA (deafBehind dB es):=by
 refine h.appB O.parts O.hk hg (fun op Bt=>B6 Bt) (fun op Bt b hb _=>?_) ?_ (fun op Bt=>?_)
 ·obtain⟨e,he,rfl⟩:=mv Bt
  rcases Hf e he with⟨a,wr,rfl,ha⟩|rfl|rfl|rfl
  ·simp only [Kc,MemAct.touch?,aL] at hb
   subst hb
   exact o5 ⟨af ⟨a,rfl,ha⟩,Ae⟩
  ·cases hb
  ·cases hb
  ·cases hb
 ·rw [ot,h.dB]
 ·obtain⟨e,he,rfl⟩:=mv Bt
  rcases Hf e he with⟨a,wr,rfl,ha⟩|rfl|rfl|rfl
  ·show a.block<_
   rw [ha];exact hW
  ·trivial
  ·trivial
  ·exact hW
theorem AN(O:C.Ok)(h:C.TI t w dA dB)(hg:Jy w w')(hC:C.Ch<w'.heap.size)(fn:du)(pos:String):C.TI (t++MemOp.ofEvents C.k fn pos #[⟨.obj C.Ch,vp,s7⟩,⟨.obj C.Ch,s7,s7⟩]) w' dA dB:=by
 refine h.appB O.parts O.hk hg (fun op Bt=>B6 Bt) (fun op Bt b hb _=>?_) ?_ (fun op Bt=>?_)
 ·obtain⟨e,he,rfl⟩:=mv Bt
  simp at he
  rcases he with rfl|rfl
  ·simp [MemAct.ofEvent,MemAct.touch?] at hb
   subst hb
   exact o5 ⟨o5 rfl,rfl⟩
  ·simp [MemAct.ofEvent,MemAct.touch?] at hb
 ·rw [ot,tu fun e he=>by simp at he;rcases he with rfl|rfl <;> simp]
  exact h.dB
 ·obtain⟨e,he,rfl⟩:=mv Bt
  simp at he
  rcases he with rfl|rfl
  ·exact hC
  ·exact hC
theorem GG(O:C.Ok)(h:C.TI t w dA dB)(hg:Jy w w')(hn:∀op∈u,op.act.touch? = od/\(∀m,op.act≠.mark m)/\op.act.low w'.heap.size):C.TI (t++u) w' dA dB:=
 h.appMute O.parts hg (fun op Bt=>(hn op Bt).1) (v8 t 0 u fun op Bt=>⟨(hn op Bt).2.1 _,(hn op Bt).2.1 _⟩) (v8 t C.k u fun op Bt=>⟨(hn op Bt).2.1 _,(hn op Bt).2.1 _⟩) fun op Bt=>(hn op Bt).2.2
theorem Ol(O:C.Ok)(h:C.TI t w dA dB){i:Nat}(h0:i≠0)(hk:i≠C.k)(hm:∀e∈es,Event.mute e=s7)(fn:du)(pos:String):C.TI (t++MemOp.ofEvents i fn pos es) w dA dB:=
 h.appMute O.parts (.refl w) (fun op Bt=>by obtain⟨e,he,rfl⟩:=mv Bt;exact touch_mute (hm e he)) (x9 t (bW (bW h0)) _ fun op Bt=>B6 Bt) (x9 t hk _ fun op Bt=>B6 Bt)
  fun op Bt=>by obtain⟨e,he,rfl⟩:=mv Bt;exact low_mute (hm e he) _
theorem TI.at(O:C.Ok)(h:C.TI t w dA dB)(d:Nat):C.TI t (w.at d) dA dB:=h.grow O.parts (.at w d)
theorem Jp{ty:s8}{Wg:Nat}{st sm:Int}(h:D3 ty Wg w st sm)(x:Int):D3 ty Wg (w.setCell (Gq Wg) (.int .u64 x)) x sm:=by
 unfold D3 at h ⊢
 simp [vk,Gq,KY,bJ,h]
theorem Yd{ty:s8}{Wg:Nat}{st sm:Int}(h:D3 ty Wg w st sm)(x:Int):D3 ty Wg (w.setCell (Yi Wg) (.int .u32 x)) st x:=by
 unfold D3 at h ⊢
 simp [vk,Yi,KY,bJ,h]
theorem G7(a:Addr)(v:tj){i:Nat}(h:i≠a.block):(w.setCell a v).heap[i]? = w.heap[i]?:=by
 simp [vk,bJ,bW h]
theorem Hj(a:Addr)(v:tj):(w.setCell a v).heap.size=w.heap.size:=by simp [vk]
theorem TE(a:Addr)(v:tj)(i:Nat)(o:Obj)(h:(w.setCell a v).heap[i]? = lp o)(hn:¬B7 o):w.heap[i]? = lp o:=by
 by_cases hi:i=a.block
 ·subst hi
  simp [vk,bJ] at h
  obtain⟨o',h1,h2⟩:=h
  rw [h1]
  revert h2
  cases o' <;> intro h2 <;> first|exact aG lp h2|(subst h2;exact absurd trivial hn)
 ·rw [G7 a v hi] at h
  exact h
theorem Hv{K:Nat->Obj->Prop}(a:Addr)(v:tj)(h:∀i o,K i o->i≠a.block):Gf K w (w.setCell a v):=
 ⟨rfl,rfl,rfl,by rw [Hj];exact aA _,fun i o e k=>by rw [G7 a v (h i o k)];exact e,TE a v⟩
theorem Uc(a:Addr)(v:tj):Jy w (w.setCell a v):=by
 refine⟨by rw [Hj];exact aA _,fun i o h=>?_⟩
 by_cases hi:i=a.block
 ·subst hi
  simp [vk,bJ,h]
  cases o <;> rfl
 ·exact⟨o,by rw [G7 a v hi];exact h,rfl⟩
theorem Rz{ty:s8}{Wg:Nat}{st sm:Int}(h:D3 ty Wg w st sm):Wg<w.heap.size:=by
 unfold D3 at h
 rcases cO Wg w.heap.size with h'|h'
 ·exact h'
 ·rw [cA h'] at h;cases h
theorem Ax{i:Nat}{o:Obj}(h:w.heap[i]? = lp o):i<w.heap.size:=by
 rcases cO i w.heap.size with h'|h'
 ·exact h'
 ·rw [cA h'] at h;cases h
theorem Gk{o:Obj}{c i:Nat}(h:i≠c):({ w with heap:=w.heap.setIfInBounds c o }:qq).heap[i]? = w.heap[i]?:=by
 simp [aD (bW h)]
theorem Nw{o:Obj}{c:Nat}(h:c<w.heap.size):({ w with heap:=w.heap.setIfInBounds c o }:qq).heap[c]? = lp o:=by
 simp [h]
theorem Oc{K:Nat->Obj->Prop}{o:Obj}{c:Nat}(E6:B7 o)(h:∀i o,K i o->i≠c):Gf K w { w with heap:=w.heap.setIfInBounds c o }:=by
 refine⟨rfl,rfl,rfl,Ae,fun i o e k=>by rw [Gk (h i o k)];exact e,fun i x e hn=>?_⟩
 by_cases hi:i=c
 ·subst hi
  simp [bF] at e
  exact absurd (e.2▸E6) hn
 ·rw [Gk hi] at e
  exact e
theorem Ub{o o':Obj}{c:Nat}(h:w.heap[c]? = lp o')(hk:kindOf o=kindOf o'):Jy w { w with heap:=w.heap.setIfInBounds c o }:=by
 refine⟨Ae,fun i x e=>?_⟩
 by_cases hi:i=c
 ·subst hi
  rw [h] at e
  obtain rfl:=aC e
  exact⟨o,Nw (Ax h),hk⟩
 ·exact⟨x,by rw [Gk hi];exact e,rfl⟩
end
def Ed(w w':qq):Prop:=w'.os=w.os/\w'.output=w.output
theorem Ed.refl(w:qq):Ed w w:=⟨rfl,rfl⟩
theorem Ed.trans{a b c:qq}(h:Ed a b)(h':Ed b c):Ed a c:=⟨h'.1.trans h.1,h'.2.trans h.2⟩
theorem V8{P:me}{main:Bool}{R R':qq->qq->Prop}{D D':qq->qq->Array p6->Prop}{Stop Stop':gq->qq->Prop}{I:qq->Prop}(hR:∀w w',R' w w'->R w w')(hRI:∀w w',R' w w'->I w->I w')(hD:∀w w' es,D w w' es->D' w w' es)(hDI:∀w w' es,D w w' es->I w->I w')(hS:∀g w,I w->Stop g w->Stop' g w):∀{n:Nat} {g:gq} {w:qq},I w->bf P main R D Stop n g w->bf P main R' D' Stop' n g w
 | 0,g,w,hI,h=>fun w₁ r=>hS g w₁ (hRI _ _ r hI) (h w₁ (hR _ _ r))
 | n+1,g,w,hI,h=>by
  rcases h with h|⟨hs,h⟩
  ·exact af fun w₁ r=>hS g w₁ (hRI _ _ r hI) (h w₁ (hR _ _ r))
  ·refine o5 ⟨hs,fun w₁ r=>?_⟩
   have h1:=h w₁ (hR _ _ r)
   have hI1:=hRI _ _ r hI
   revert h1
   cases stepG P main g w₁ <;> simp only [GStep.goes,imp_self]
   exact fun⟨d,x⟩=>⟨hD _ _ _ d,V8 hR hRI hD hDI hS (hDI _ _ _ d hI1) x⟩
section
variable (C:Pu) (I:qq->Prop)
variable {C I}
variable {sent:List (C.β×tj)} {g:gq} {w:qq}
end
inductive AT|rc|kd|w1|w2|wz|wm|w3|w4|ke|ac
inductive BT|r0|k1|d1|d2|d3|d4|qt
def Qp:AT->Nat
 | .rc=>12|.kd=>11|.w1=>10|.w2=>9|.wz=>8|.wm=>8|.w3=>7|.w4=>6|.ke=>5|.ac=>4
def Wh:BT->Nat
 | .r0=>7|.k1=>6|.d1=>5|.d2=>4|.d3=>3|.d4=>2|.qt=>1
def dfA:AT->Nat
 | .rc|.kd|.ac=>0|_=>1
def dfB:BT->Nat
 | .r0|.k1=>0|_=>1
def Ip:AT->BT->Option (Int×Int)
 | .rc,.qt|.kd,.qt|.w1,.qt|.w2,.qt|.wz,.qt|.w4,.qt|.ke,.qt|.ac,.qt=>lp (0,0)
 | .wm,.qt|.w3,.qt=>lp (0,1)
 | .wm,.d4|.w3,.d4=>lp (0,0)
 | .wm,.d3|.w3,.d3|.wm,.d2|.w3,.d2=>lp (1,0)
 | .wm,.r0|.w3,.r0|.wm,.k1|.w3,.k1|.wm,.d1|.w3,.d1=>lp (KK+1,0)
 | .rc,.r0|.rc,.k1|.rc,.d1|.kd,.r0|.kd,.k1|.kd,.d1|.w1,.r0|.w1,.k1|.w1,.d1|.w2,.r0|.w2,.k1|.w2,.d1=>lp (KK,0)
 | _,_=>od
section
variable (C:Pu) (sent:List (C.β×tj))
def WS:AT->gq->qq->Prop
 | .rc=>WN C sent|.kd=>AKd C sent|.w1=>AW1 C sent|.w2=>AW2 C sent|.wz=>AWz C sent|.wm=>AWm C sent|.w3=>AW3 C sent|.w4=>AW4 C sent|.ke=>AKe C sent|.ac=>Aaj C sent
def RS:BT->gq->qq->Prop
 | .r0=>RN C sent|.k1=>BK1 C|.d1=>BD1 C|.d2=>BD2 C|.d3=>BD3 C|.d4=>BD4 C|.qt=>fun _ _=>False
def I6(ta:AT)(ra:Nat)(a:gq)(w:qq):Prop:=
 (∃n,ra=n+1/\bf C.P s7 (RA C sent) (DA C) (WS C sent ta) n a w) ∨
 (ta=.w3/\ra=0/\∃g,a = { g with status:=.blocked }/\∀w₁,RA C sent w w₁->AW3 C sent g w₁)
def DBt:BT->qq->qq->Array p6->Prop
 | .r0=>DB C sent
 | _=>D0
def Ow(tb:BT)(rb dB:Nat)(b:gq)(w:qq):Prop:=
 (tb≠.qt/\dB=dfB tb/\∃n,rb=n+1/\bf C.P vp (RB C) (DBt C sent tb) (RS C sent tb) n b w)∨(tb=.qt/\QuitsD C.P rb dB b)
def Rl(bs:List C.β)(ra:Nat)(a:gq)(w:qq):Prop:=
 (∃n,ra=n+1/\bf C.P s7 (RA C sent) (DA C) (Jh C bs sent) n a w) ∨
 (ra=0/\∃g z,a=yy (core g) #[e9 C.Ch z] (.recv s7)/\∀w₁,RA C sent w w₁->Jh C bs sent g w₁)
def Rn(bs:List C.β)(rb:Nat)(b:gq)(w:qq):Prop:=
 (∃n,rb=n+1/\bf C.P vp (RB C) (DB C sent) (Sx C bs sent) n b w) ∨
 (rb=0/\∃b' bs' g v z,bs=b' :: bs'/\b=yy (core g) #[mh C.Ch v z] .send/\C.Msg b' v w/\∀w₁,RB C w w₁->O9 C bs' (sent ++ [(b',v)]) (ay (core g) undef) w₁)
structure J2(ta:AT)(tb:BT)(ra rb:Nat)(a b:gq)(w:qq)(t:bd):Prop where
 ch:∃s r tm,w.heap[C.Ch]? = lp (.chan 0 #[] s7 s r tm)
 wg:∃st sm,Ip ta tb=lp (st,sm)/\D3 C.ty C.Wg w st sm
 ti:∃dB,C.TI t w (dfA ta) dB/\Ow C sent tb rb dB b w
 sa:I6 C sent ta ra a w
 nb:tb=.qt->ra≠0
 msgs:∀x∈sent,C.Msg x.1 x.2 w
 rel:tb≠.r0->C.FB sent w/\∃r,RI C.k C.Wg t r
structure J1(bs:List C.β)(ra rb:Nat)(a b:gq)(w:qq)(t:bd):Prop where
 ch:∃s r tm,w.heap[C.Ch]? = lp (.chan 0 #[] vp s r tm)
 wg:D3 C.ty C.Wg w KK 0
 ti:C.TI t w 0 0
 sa:Rl C sent bs ra a w
 sb:Rn C sent bs rb b w
 nb:¬(ra=0/\rb=0)
 msgs:∀x∈sent,C.Msg x.1 x.2 w
end
section
variable {C:Pu} {sent:List (C.β×tj)} {w w':qq} {t:bd} {a b:gq} {ta:AT} {tb:BT} {ra rb dB:Nat} {bs:List C.β}
theorem DBt.db{es:Array p6}(h:DBt C sent tb w w' es):DB C sent w w' es:=by cases tb <;> first|exact h|exact D0.db C sent h
theorem DBt.nil{es:Array p6}(h:DBt C sent tb w w' es)(hn:tb≠.r0):es=#[]/\w'=w:=by cases tb <;> first|exact absurd rfl hn|exact⟨h.2,h.1⟩|exact⟨h.2,h.1.symm⟩
theorem WS.running{g:gq}{w:qq}(h:WS C sent ta g w):g.status=.running:=by cases ta <;> exact h.1
theorem RS.running{g:gq}{w:qq}(h:RS C sent tb g w):g.status=.running:=by cases tb <;> first|exact h.1|exact h.elim
theorem Jh.running{g:gq}{w:qq}(h:Jh C bs sent g w):g.status=.running:=by cases bs <;> exact h.1
theorem raT:∀a b c,RA C sent a b->RA C sent b c->RA C sent a c:=fun _ _ _ h k=>h.trans k
theorem rbT:∀a b c,RB C a b->RB C b c->RB C a c:=fun _ _ _ h k=>h.trans k
theorem PL(O:C.Ok)(h:Gf C.KA w w')(h':Gf C.KB w w')(hw:Dq C.ty C.Wg w->Dq C.ty C.Wg w'):RA C sent w w':=⟨h,hw,fun x _ m=>O.msgB _ _ _ _ h' m⟩
theorem Nb(h:w'.heap[C.Wg]? = w.heap[C.Wg]?):Dq C.ty C.Wg w->Dq C.ty C.Wg w':=fun⟨st,sm,x⟩=>⟨st,sm,by unfold D3 at *;rw [h];exact x⟩
theorem DA.toB{es:Array p6}(D:DA C w w' es):RB C w w':=⟨D.keep,Nb D.wg⟩
theorem DB.toA{es:Array p6}(D:DB C sent w w' es):RA C sent w w':=⟨D.keep,Nb D.wg,D.msg⟩
theorem VX(O:C.Ok)(d:Nat):RA C sent w (w.at d):=PL O (.at _ _ _) (.at _ _ _) id
theorem VY(d:Nat):RB C w (w.at d):=⟨.at _ _ _,id⟩
theorem I6.rely(h:I6 C sent ta ra a w)(hr:RA C sent w w'):I6 C sent ta ra a w':=by
 rcases h with⟨n,e,hg⟩|⟨e1,e2,g,ea,hs⟩
 ·exact af ⟨n,e,dd raT hg hr⟩
 ·exact o5 ⟨e1,e2,g,ea,fun w₂ h₂=>hs w₂ (hr.trans h₂)⟩
theorem Ow.rely(h:Ow C sent tb rb dB b w)(hr:RB C w w'):Ow C sent tb rb dB b w':=by
 rcases h with⟨e0,e1,n,e,hg⟩|h
 ·exact af ⟨e0,e1,n,e,dd rbT hg hr⟩
 ·exact o5 h
theorem Rl.rely(h:Rl C sent bs ra a w)(hr:RA C sent w w'):Rl C sent bs ra a w':=by
 rcases h with⟨n,e,hg⟩|⟨e1,g,z,ea,hs⟩
 ·exact af ⟨n,e,dd raT hg hr⟩
 ·exact o5 ⟨e1,g,z,ea,fun w₂ h₂=>hs w₂ (hr.trans h₂)⟩
theorem Rn.rely(O:C.Ok)(h:Rn C sent bs rb b w)(hr:RB C w w'):Rn C sent bs rb b w':=by
 rcases h with⟨n,e,hg⟩|⟨e1,b',bs',g,v,z,e2,e3,hm,hs⟩
 ·exact af ⟨n,e,dd rbT hg hr⟩
 ·exact o5 ⟨e1,b',bs',g,v,z,e2,e3,O.msgB _ _ _ _ hr.keep hm,fun w₂ h₂=>hs w₂ (hr.trans h₂)⟩
theorem I6.status(h:I6 C sent ta ra a w):(a.status=.running/\ra≠0)∨(a.status=.blocked/\ra=0/\ta=.w3):=by
 rcases h with⟨n,e,hg⟩|⟨e1,e2,g,rfl,_⟩
 ·exact af ⟨hg.running (fun _ _=>WS.running) w (RA.refl _ _ _),Ab⟩
 ·exact o5 ⟨rfl,e2,e1⟩
theorem Ow.status(h:Ow C sent tb rb dB b w):b.status=.running∨(b.status=.finished/\tb=.qt):=by
 rcases h with⟨_,_,n,e,hg⟩|⟨e,h⟩
 ·exact af (hg.running (fun _ _=>RS.running) w (RB.refl _ _))
 ·exact h.status.imp id fun x=>⟨x,e⟩
theorem Rl.status(h:Rl C sent bs ra a w):(a.status=.running/\ra≠0)∨(a.status=.blocked/\ra=0):=by
 rcases h with⟨n,e,hg⟩|⟨e1,g,z,rfl,_⟩
 ·exact af ⟨hg.running (fun _ _=>Jh.running) w (RA.refl _ _ _),Ab⟩
 ·exact o5 ⟨rfl,e1⟩
theorem Rn.status(h:Rn C sent bs rb b w):(b.status=.running/\rb≠0)∨(b.status=.blocked/\rb=0):=by
 rcases h with⟨n,e,hg⟩|⟨e1,b',bs',g,v,z,_,rfl,_⟩
 ·exact af ⟨hg.running (fun _ _=>Sx.running C) w (RB.refl _ _),Ab⟩
 ·exact o5 ⟨rfl,e1⟩
theorem Ep{P:me}{g g' o:gq}{w:qq}(h:o.status=.running∨o.status=.finished):woken P g g' w o=o:=by
 unfold woken
 split
 ·exact again_running _ h
 ·rfl
theorem Ow.woken{P:me}(h:Ow C sent tb rb dB b w)(g g':gq)(w':qq):woken P g g' w' b=b:=Ep (h.status.imp id (·.1))
theorem Rl.woken{P:me}(h:Rl C sent bs ra a w){s r:Nat}{tm:Bool}(hc:w'.heap[C.Ch]? = lp (.chan 0 #[] vp s r tm))(g g':gq):woken P g g' w' a=a:=by
 rcases h with⟨n,e,hg⟩|⟨e1,g,z,rfl,_⟩
 ·exact Ep (af (hg.running (fun _ _=>Jh.running) w (RA.refl _ _ _)))
 ·exact woken_recv_open _ _ hc
theorem Rn.woken{P:me}(h:Rn C sent bs rb b w){s r:Nat}{tm:Bool}(hc:w'.heap[C.Ch]? = lp (.chan 0 #[] vp s r tm))(g g':gq):woken P g g' w' b=b:=by
 rcases h with⟨n,e,hg⟩|⟨e1,b',bs',g,v,z,_,rfl,_⟩
 ·exact Ep (af (hg.running (fun _ _=>Sx.running C) w (RB.refl _ _)))
 ·exact woken_send_open _ _ hc
theorem I6.woken{P:me}(h:I6 C sent ta ra a w)(g g':gq)(w':qq):∃Ib,Ib<=ra+1/\(ra≠0->Ib≠0)/\I6 C sent ta Ib (woken P g g' w' a) w:=by
 rcases h with⟨n,e,hg⟩|⟨e1,e2,x,rfl,hs⟩
 ·refine⟨ra,Ab,id,?_⟩
  exact Kfe
 ·have h0:=hs w (RA.refl _ _ _)
  by_cases hw:(mayWake P g && g'.status != .blocked && g'.status != .waiting)=s7
  ·refine⟨1,Ab,fun _=>Ab,af ⟨0,rfl,?_⟩⟩
   exact Lwp
  ·refine⟨ra,Ab,id,?_⟩
   have e3:qm P g g' w' { x with status:=.blocked } = { x with status:=.blocked }:=by
    unfold qm
    rw [aO hw]
   rw [e3]
   exact o5 ⟨e1,e2,x,rfl,hs⟩
theorem I6.wakes{P:me}(h:I6 C sent ta ra a w){g g':gq}(w':qq)(hw:(mayWake P g && g'.status != .blocked && g'.status != .waiting)=s7):∃Ib,Ib≠0/\I6 C sent ta Ib (qm P g g' w' a) w:=by
 rcases h with⟨n,e,hg⟩|⟨e1,e2,x,rfl,hs⟩
 ·refine⟨ra,Ab,?_⟩
  exact Kfe
 ·have h0:=hs w (RA.refl _ _ _)
  refine⟨1,Ab,af ⟨0,rfl,?_⟩⟩
  exact Lwp
end
end Go.Pair

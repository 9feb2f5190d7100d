import Derived.Test.YtjoblhlkfmeckaaGreatDoorQ01
set_option linter.unusedVariables false
set_option linter.unusedSimpArgs false
open Go renaming Goroutine → gq,World → qq,Trace → bd,deafBehind → l7,FuncId → du,Value → tj
open Go.Conc renaming mem_ofEvents → mv,Deaf_other → x9,crowd → vx
open Option renaming some → lp
open Go.ConcN renaming Deaf_still → v8
open Bool renaming true → s7,false → vp
open Or renaming inl → af,inr → o5
theorem Pln{p:Prop}(h:p:=by
 cases tb <;> simp [Ip] at Dk <;> (obtain⟨rfl,rfl⟩:=Dk;simp [Ip])):p:=h
theorem Ds1{p:Prop}(h:p:=by
 rcases hw with rfl|⟨ad,v,rfl,had⟩
 ·rfl
 ·exact G7 ad v (by rw [had];exact bW O.neq)):p:=h
theorem M0e{p:Prop}(h:p:=by
 simp at he
 rcases he with rfl|rfl
 ·exact .inl ⟨_,_,rfl,rfl⟩
 ·exact .inl ⟨_,_,rfl,rfl⟩):p:=h
theorem Cnu{p:Prop}(h:p:=by
 simp [semEvents] at he
 rcases he with rfl|rfl|rfl|rfl
 ·exact .inr (.inl rfl)
 ·exact .inl ⟨_,_,rfl,rfl⟩
 ·exact .inl ⟨_,_,rfl,rfl⟩
 ·exact .inr (.inr (.inl rfl))):p:=h
theorem Shg{p:Prop}(h:p:=by
 cases ta <;> simp [Ip] at Dk <;> (obtain⟨rfl,rfl⟩:=Dk;simp [Ip])):p:=h
theorem Xls{p:Prop}(h:p:=by
 obtain⟨e,he,rfl⟩:=Conc.mem_ofEvents Bt
 exact low_mute (hm e he) _):p:=h
theorem Rvz{p:Prop}(h:p:=by
 obtain⟨e,he,rfl⟩:=Conc.mem_ofEvents Bt
 rw [touch_mute (hm e he)] at hx
 cases hx):p:=h
theorem Tji{p:Prop}(h:p:=by
 refine⟨r,hR.appOwn _ _ _ (fun e he x=>?_) fun j e he=>.inl (touch_mute (hm e (dJ he)))⟩
 have:=hm e he
 obtain⟨loc,wr,sy⟩:=e
 simp only at x
 subst x
 simp [Event.mute] at this):p:=h
theorem Mgr{p:Prop}(h:p:=by
 by_cases hik:i=C.k
 ·subst hik
  rw [xb] at hg
  obtain rfl:=aC hg
  rw [upd_same]
  exact hq
 ·rw [upd_ne q' n hik]
  exact xO.old i g hi hik hg):p:=h
theorem Je3{p q:Prop}(k:q)(h:Hd q->p:=by
 intro kz
 have hrunT:=runT_crowd_go (P:=P) (sl:=sl') (i:=i) hi (by rw [hi0];exact hstp (w.at n))
 have hsum:sumTo gs.size (upd q i m)+(m+1)=sumTo gs.size q+m:=by
  have:=sumTo_upd q m id Cg
  simpa [hqi] using this
 have Di:((gs.map (woken P x g' (w.at n))).setIfInBounds i g').size=gs.size:=Ae
 revert hrunT hsum Di
 exact kz.1):p:=h ⟨k⟩
theorem Qcp{p:Prop}(h:p:=by
 intro x hx
 obtain⟨i,hi,rfl⟩:=Array.mem_iff_getElem.1 hx
 rcases cX i with rfl|H9
 ·have:gs[0]=g:=by simpa [aZ hi] using h0
  rw [this];exact awake_of (.inl D1)
 ·exact awake_of ((hL.old i _ H9 (aZ hi)).status.elim .inl fun x=>.inr (.inr x))):p:=h
theorem Mfz{p:Prop}(h:p:=by
 have hq:=hL.old i x H9 hi
 refine Dem ?_;intro hi0 Cg
 cases hqi:q i with
 | zero=>rw [hqi] at hq;rw [hq.1] at hx;cases hx
 | succ m=>
  rw [hqi] at hq
  rcases hq with⟨hf,_⟩|⟨_,g',es,hm,hstp,hq'⟩
  ·rw [hf] at hx;cases hx
  refine Je3 ?_;intro hrunT hsum Di
  obtain⟨N,last,o,wf,tf,r1,r2,r3,r4⟩:=ihM (sumTo gs.size (upd q i m)) Ab ((gs.map (woken P x g' (w.at n))).setIfInBounds i g') (w.at n) sl' (t++MemOp.ofEvents i x.frame.fn x.frame.place es) (upd q i m) ⟨n,rfl⟩ (by rw [Di];exact aA _)
   (by rw [aD Ab,bS,h0];simp [woken_run D1])
   ⟨fun j y hj hy=>by
    by_cases hji:i=j
    ·subst hji
     rw [aS (by simpa using Cg)] at hy
     obtain rfl:=aC hy
     rw [upd_same,Deaf_own]
     exact hq'
    ·rw [aD hji,bS] at hy
     obtain⟨z,hz,rfl⟩:=aJ.1 hy
     have hqj:=hL.old j z hj hz
     rw [woken_quitsD hqj,upd_ne q m (bW hji),Deaf_other t hji _ (fun op Bt=>B6 Bt)]
     exact hqj,fun j hj=>by
    rw [Deaf_other t (g':=i) (by simp at hj;omega) _ (fun op Bt=>B6 Bt)]
    exact hL.above j (by simpa using hj)⟩ (hP.mute Ab hm)
  have Co:=Dk.trans hrunT
  exact⟨N+1,last,o,wf,tf,Mw Co r1,by rw [runN_succ_next Co];exact r2,r3,r4⟩):p:=h
theorem F1f{p q:Prop}(k:q)(h:Hd q->p:=by
 intro kz
 have hkb:((gs.setIfInBounds 0 a').push child)[C.k]? = some child:=by
  have e:((gs.setIfInBounds 0 a').push child)[(gs.setIfInBounds 0 a').size]? = some child:=Array.getElem?_push_size
  rw [Array.size_setIfInBounds] at e
  rw [hCk]
  exact e
 revert hkb
 exact kz.1):p:=h ⟨k⟩
theorem Hqw{p q:Prop}(k:q)(h:Hd q->p:=by
 intro kz
 have hrunT:=runT_crowd_spawn (P:=C.P) (sl:=sl') (i:=0) hi (show stepG C.P (0 == 0) x (w.at n)=_ from hs)
 have hops:((MemOp.ofEvents 0 x.frame.fn x.frame.place #[]).push { g:=0,fn:=x.frame.fn,pos:=x.frame.place,act:=.go gs.size }).push { g:=gs.size,fn:=child.frame.fn,pos:=x.frame.place,act:=.start }=#[({ g:=0,fn:=x.frame.fn,pos:=x.frame.place,act:=.go C.k }:MemOp),{ g:=C.k,fn:=child.frame.fn,pos:=x.frame.place,act:=.start }]:=by
  rw [hCk];simp [MemOp.ofEvents]
 revert hrunT hops
 exact kz.1):p:=h ⟨k⟩
theorem Mr8{p:Prop}(h:p:=by
 refine⟨1+N+N2,last,o,wf,tf,?_,?_,r3,r4⟩
 ·have e:1+N+N2+1=(N+(N2+1))+1:=Ab
  rw [e,runNT_succ_next Co,runNT_add,hr]
  exact r1
 ·have e:1+N+N2=(N+N2)+1:=Ab
  rw [e,runN_succ_next Co,runN_add,←runNT_fst C.P _ _ (t++#[({ g:=0,fn:=x.frame.fn,pos:=x.frame.place,act:=.go C.k }:MemOp),{ g:=C.k,fn:=child.frame.fn,pos:=x.frame.place,act:=.start }]),hr]
  exact r2):p:=h
namespace Go.Pair
open Go Go.Conc
section
variable (C:Pu) (bs0:List C.β)
structure Fin(a b:gq)(w:qq)(t:bd):Prop where
 run:a.status=.running
 past:Past (fun l=>C.Shun l∨Hy C.Wg l) w.heap.size t
 quits:∃n,QuitsD C.P n (Deaf t C.k) b
 post:∃sent,sent.map (·.1)=bs0/\C.PostA sent a w/\C.FB sent w/\∀x∈sent,C.Msg x.1 x.2 w
 shut:Wy C.ty C.Wg C.Ch w
def J(μ:Nat×Nat)(a b:gq)(w:qq)(t:bd):Prop:=
 (μ=(0,0)/\Fin C bs0 a b w t) ∨
 (∃sent ta tb ra rb,μ=(Qp ta+Wh tb,ra+2 * rb)/\sent.map (·.1)=bs0/\J2 C sent ta tb ra rb a b w t) ∨
 (∃bs sent ra rb,μ=(bs.length+40,ra+2 * rb)/\sent.map (·.1)++bs=bs0/\J1 C sent bs ra rb a b w t)
abbrev R6:Nat×Nat->Nat×Nat->Prop:=Prod.Lex (· < ·) (· < ·)
theorem FN:WellFounded R6:=(Prod.lex ⟨_,Nat.lt_wfRel.wf⟩ ⟨_,Nat.lt_wfRel.wf⟩).wf
end
section
variable {C:Pu} {bs0:List C.β} {sent:List (C.β×tj)} {w w':qq} {t:bd} {a b:gq} {ta ta':AT} {tb tb':BT} {ra rb:Nat} {bs:List C.β}
theorem TU{es:Array Event}(h:∀e∈es,GK C.Wg e)(hk:0<C.k)(fn:du)(pos:String):∀op∈MemOp.ofEvents 0 fn pos es,op.g≠C.k/\op.act≠.mark (.release (Gq C.Wg)):=by
 intro op Bt
 obtain⟨e,he,rfl⟩:=mv Bt
 refine⟨by show 0≠C.k;omega,?_⟩
 rcases h e he with⟨a,wr,rfl,ha⟩|rfl|rfl|rfl|rfl <;> simp [MemAct.ofEvent,Pt]
theorem TX{es:Array Event}{L:qq->Loc->Bool->Prop}(h:∀e∈es,RO L w' e)(hk:0<C.k)(fn:du)(pos:String):∀op∈MemOp.ofEvents 0 fn pos es,op.g≠C.k/\op.act≠.mark (.release (Gq C.Wg)):=by
 intro op Bt
 obtain⟨e,he,rfl⟩:=mv Bt
 refine⟨by show 0≠C.k;omega,?_⟩
 rcases h e he with⟨m,hm,hn⟩|⟨a,wr,rfl,_,_⟩
 ·obtain⟨loc,wr,sy⟩:=e
  simp only at hm
  subst hm
  unfold Neutral at hn
  subst hn
  cases wr <;> cases sy <;> simp [MemAct.ofEvent]
 ·simp [MemAct.ofEvent]
theorem J2.privA(O:C.Ok)(h:J2 C sent ta tb ra rb a b w t){a':gq}{es:Array Event}(D:DA C w w' es){Ib:Nat}(hs:I6 C sent ta Ib a' w')(hr:Ib≠0) :
  J2 C sent ta tb Ib rb a' (woken C.P a a' w' b) w' (t++MemOp.ofEvents 0 a.frame.fn a.frame.place es):=by
 obtain⟨dB,Hp,Gs⟩:=h.ti
 rw [Gs.woken]
 obtain⟨s,r,tm,hc⟩:=h.ch
 obtain⟨st,sm,Dk,Hh⟩:=h.wg
 exact⟨⟨s,r,tm,by rw [D.ch];exact hc⟩,⟨st,sm,Dk,by unfold D3 at *;rw [D.wg];exact Hh⟩,⟨dB,AO O Hp D _ _,Gs.rely D.toB⟩,hs,fun _=>hr,fun x hx=>O.msgB _ _ _ _ D.keep (h.msgs x hx),
  fun Cu=>⟨O.fbB _ _ _ D.keep (h.rel Cu).1,let⟨r,hr⟩:=(h.rel Cu).2;⟨r,hr.appOther (TX D.ev O.hk _ _)⟩⟩⟩
theorem J2.wgA(O:C.Ok)(h:J2 C sent ta tb ra rb a b w t){a':gq}{es:Array Event}(Hf:∀e∈es,GK C.Wg e){Ib:Nat}{st sm:Int}(hw:w'=w∨∃ad v,w'=w.setCell ad v/\ad.block=C.Wg)(Dk:Ip ta' tb=lp (st,sm))(Hh:D3 C.ty C.Wg w' st sm)(hd:l7 (dfA ta) es=dfA ta')(hs:I6 C sent ta' Ib a' w')(hr:tb=.qt->Ib≠0) :
  J2 C sent ta' tb Ib rb a' (woken C.P a a' w' b) w' (t++MemOp.ofEvents 0 a.frame.fn a.frame.place es):=by
 obtain⟨dB,Hp,Gs⟩:=h.ti
 rw [Gs.woken]
 obtain⟨s,r,tm,hc⟩:=h.ch
 have hK:Gf C.KB w w':=by
  rcases hw with rfl|⟨ad,v,rfl,had⟩
  ·exact .refl _ _
  ·exact Hv ad v fun i o k=>by rw [had];exact(O.kb i o k).1
 have hG:Jy w w':=by
  rcases hw with rfl|⟨ad,v,rfl,had⟩
  ·exact .refl _
  ·exact Uc ad v
 have hC:w'.heap[C.Ch]? = w.heap[C.Ch]?:=by
  exact Ds1
 have hti':=ZW O Hp hG (Rz Hh) Hf a.frame.fn a.frame.place
 rw [hd] at hti'
 exact⟨⟨s,r,tm,by rw [hC];exact hc⟩,⟨st,sm,Dk,Hh⟩,⟨dB,hti',Gs.rely ⟨hK,fun _=>⟨st,sm,Hh⟩⟩⟩,hs,hr,fun x hx=>O.msgB _ _ _ _ hK (h.msgs x hx),
  fun Cu=>⟨O.fbB _ _ _ hK (h.rel Cu).1,let⟨r,hr⟩:=(h.rel Cu).2;⟨r,hr.appOther (TU Hf O.hk _ _)⟩⟩⟩
theorem Ze(Wg:Nat):∀e∈(#[Yh (Gq Wg)]:Array Event),GK Wg e:=fun e he=>by
 simp at he
 subst he
 exact af ⟨_,_,rfl,rfl⟩
theorem Abd(Wg:Nat):∀e∈(#[Yh (Gq Wg),QY (Gq Wg)]:Array Event),GK Wg e:=fun e he=>by
 exact M0e
theorem XO(Wg:Nat):∀e∈semEvents (Yi Wg),GK Wg e:=fun e he=>by
 exact Cnu
theorem Ll{Stop:AT}{n:Nat}{g:gq}{w:qq}(h:Goes C.P s7 (RA C sent) D0 (WS C sent Stop) n g w):I6 C sent Stop (n+1) g w:=af ⟨n,rfl,J9 (fun _ _ _ d=>D0.da C d) h⟩
theorem ZJ(O:C.Ok)(D9:sent.map (·.1)=bs0)(h:J2 C sent ta tb ra rb a b w t)(D1:a.status=.running) :
  StepA C.P C.k a b w t fun a' b' w' t'=>∃μ',R6 μ' (Qp ta+Wh tb,ra+2 * rb)/\J C bs0 μ' a' b' w' t':=by
 rcases h.sa with⟨n,rfl,hg⟩|⟨_,_,g,rfl,_⟩
 rotate_left
 ·cases D1
 rcases hg.cases with E5|⟨n',rfl,Co⟩
 rotate_left
 ·obtain⟨g',w1,es,Dk,D,hG⟩:=Co w (RA.refl _ _ _)
  exact af ⟨g',w1,es,Dk,_,.right _ Ab,o5 (af ⟨sent,ta,tb,n'+1,rb,rfl,D9,h.privA O D (af ⟨n',rfl,hG⟩) Ab⟩)⟩
 have hS:=E5 w (RA.refl _ _ _)
 obtain⟨st,sm,Dk,Hh⟩:=h.wg
 cases ta with
 | rc=>
  obtain⟨_,z,hcm,Bo⟩:=hS
  obtain⟨m,hG⟩:=Bo w (RA.refl _ _ _)
  obtain⟨s,r,tm,hc⟩:=h.ch
  obtain⟨dB,Hp,Gs⟩:=h.ti
  refine o5 (o5 (o5 ⟨core a,C.Ch,z,#[],s,r,tm,hcm,hc,?_,_,.left _ _ (bR (show Qp .kd<Qp .rc by decide) _),o5 (af ⟨sent,.kd,tb,m+1,rb,rfl,D9,?_⟩)⟩))
  ·rcases Gs.status with x|⟨x,_⟩ <;> rw [x] <;> simp
  ·have Bt:∀op∈(MemOp.ofEvents 0 a.frame.fn a.frame.place #[]++#[({ g:=0,fn:=(core a).frame.fn,pos:=(core a).frame.place,act:=.recvClosed C.Ch }:MemOp)]),op = { g:=0,fn:=(core a).frame.fn,pos:=(core a).frame.place,act:=.recvClosed C.Ch }:=fun op Bt=>by
    simpa [MemOp.ofEvents] using Bt
   refine⟨⟨s,r,tm,hc⟩,⟨st,sm,?_,Hh⟩,⟨dB,GG O Hp (.refl _) fun op ho=>?_,Gs⟩,af ⟨m,rfl,hG⟩,fun _=>Ab,h.msgs,fun Cu=>⟨(h.rel Cu).1,let⟨r,hr⟩:=(h.rel Cu).2;⟨r,hr.appOther fun op ho=>?_⟩⟩⟩
   ·revert Dk
    cases tb <;> exact id
   ·rw [Bt op ho]
    exact⟨rfl,fun m=>Ae,Ax hc⟩
   ·rw [Bt op ho]
    exact⟨by show 0≠C.k;have:=O.hk;omega,Ae⟩
 | kd=>
  obtain⟨_,g',hstp,m,hG⟩:=hS
  exact af ⟨g',w,_,hstp,_,.left _ _ (bR (show Qp .w1<Qp .kd by decide) _),o5 (af ⟨sent,.w1,tb,m+1,rb,rfl,D9,h.wgA O (fun e he=>by simp at he;exact o5 (af he)) (af rfl) (by revert Dk;cases tb <;> exact id) Hh rfl (Ll hG) fun _=>Ab⟩)⟩
 | w1=>
  obtain⟨_,hK,h0⟩:=hS
  have:(st=KK/\sm=0)∨(st=0/\sm=0/\tb=.qt):=by
   exact Pln
  rcases this with⟨rfl,rfl⟩|⟨rfl,rfl,rfl⟩
  ·obtain⟨g',hstp,m,hG⟩:=hK Hh
   exact af ⟨g',w,_,hstp,_,.left _ _ (bR (show Qp .w2<Qp .w1 by decide) _),o5 (af ⟨sent,.w2,tb,m+1,rb,rfl,D9,h.wgA O (Ze _) (af rfl) (by revert Dk;cases tb <;> exact id) Hh rfl (Ll hG) fun _=>Ab⟩)⟩
  ·obtain⟨g',hstp,m,hG⟩:=h0 Hh
   exact af ⟨g',w,_,hstp,_,.left _ _ (bR (show Qp .ke<Qp .w1 by decide) _),o5 (af ⟨sent,.ke,.qt,m+1,rb,rfl,D9,h.wgA O (Ze _) (af rfl) rfl Hh rfl (Ll hG) fun _=>Ab⟩)⟩
 | w2=>
  obtain⟨_,hK,h0⟩:=hS
  have:(st=KK/\sm=0/\Ip .wm tb=lp (KK+1,0)/\tb≠.qt)∨(st=0/\sm=0/\tb=.qt):=by
   exact Pln
  rcases this with⟨rfl,rfl,hst',hq⟩|⟨rfl,rfl,rfl⟩
  ·obtain⟨g',hstp,m,hG⟩:=hK Hh
   exact af ⟨g',_,_,hstp,_,.left _ _ (bR (show Qp .wm<Qp .w2 by decide) _),o5 (af ⟨sent,.wm,tb,m+1,rb,rfl,D9,h.wgA O (Abd _) (o5 ⟨_,_,rfl,rfl⟩) hst' (Jp Hh _) rfl (Ll hG) fun _=>Ab⟩)⟩
  ·obtain⟨g',hstp,m,hG⟩:=h0 Hh
   exact af ⟨g',w,_,hstp,_,.left _ _ (bR (show Qp .wz<Qp .w2 by decide) _),o5 (af ⟨sent,.wz,.qt,m+1,rb,rfl,D9,h.wgA O (Ze _) (af rfl) rfl Hh rfl (Ll hG) fun _=>Ab⟩)⟩
 | wz=>
  obtain⟨_,h0⟩:=hS
  have:st=0/\sm=0/\tb=.qt:=by
   exact Pln
  obtain⟨rfl,rfl,rfl⟩:=this
  obtain⟨g',hstp,m,hG⟩:=h0 Hh
  exact af ⟨g',w,_,hstp,_,.left _ _ (bR (show Qp .ke<Qp .wz by decide) _),o5 (af ⟨sent,.ke,.qt,m+1,rb,rfl,D9,h.wgA O (Ze _) (af rfl) rfl Hh rfl (Ll hG) fun _=>Ab⟩)⟩
 | wm=>
  obtain⟨_,g',hstp,m,hG⟩:=hS
  exact af ⟨g',w,_,hstp,_,.left _ _ (bR (show Qp .w3<Qp .wm by decide) _),o5 (af ⟨sent,.w3,tb,m+1,rb,rfl,D9,h.wgA O (fun e he=>by simp at he;exact o5 (o5 (o5 (af he)))) (af rfl) (by revert Dk;cases tb <;> exact id) Hh rfl (Ll hG) fun _=>Ab⟩)⟩
 | w3=>
  obtain⟨_,hoff,hb,hf⟩:=hS
  have:(sm=0/\tb≠.qt)∨(st=0/\sm=1/\tb=.qt):=by
   exact Pln
  rcases this with⟨rfl,hq⟩|⟨rfl,rfl,rfl⟩
  ·refine af ⟨_,w,_,hb ⟨st,Hh⟩,_,.right _ Ab,o5 (af ⟨sent,.w3,tb,0,rb,rfl,D9,h.wgA O Ae (af rfl) Dk Hh rfl (o5 ⟨rfl,rfl,a,rfl,E5⟩) fun e=>absurd e hq⟩)⟩
  ·obtain⟨g',hstp,m,hG⟩:=hf Hh
   exact af ⟨g',_,_,hstp,_,.left _ _ (bR (show Qp .w4<Qp .w3 by decide) _),o5 (af ⟨sent,.w4,.qt,m+1,rb,rfl,D9,h.wgA O (XO _) (o5 ⟨_,_,rfl,rfl⟩) rfl (Yd Hh _) rfl (Ll hG) fun _=>Ab⟩)⟩
 | w4=>
  obtain⟨_,h0⟩:=hS
  have:st=0/\sm=0/\tb=.qt:=by
   exact Pln
  obtain⟨rfl,rfl,rfl⟩:=this
  obtain⟨g',hstp,m,hG⟩:=h0 Hh
  exact af ⟨g',w,_,hstp,_,.left _ _ (bR (show Qp .ke<Qp .w4 by decide) _),o5 (af ⟨sent,.ke,.qt,m+1,rb,rfl,D9,h.wgA O (Ze _) (af rfl) rfl Hh rfl (Ll hG) fun _=>Ab⟩)⟩
 | ke=>
  obtain⟨_,g',hstp,m,hG⟩:=hS
  exact af ⟨g',w,_,hstp,_,.left _ _ (bR (show Qp .ac<Qp .ke by decide) _),o5 (af ⟨sent,.ac,tb,m+1,rb,rfl,D9,h.wgA O (fun e he=>by simp at he;exact o5 (o5 (af he))) (af rfl) (by revert Dk;cases tb <;> exact id) Hh rfl (Ll hG) fun _=>Ab⟩)⟩
 | ac=>
  obtain⟨_,g',hstp,hrun',hpost⟩:=hS
  have hq:tb=.qt:=by cases tb <;> simp [Ip] at Dk <;> rfl
  subst hq
  obtain⟨hfb,r,hR⟩:=h.rel Ae
  obtain⟨dB,Hp,Gs⟩:=h.ti
  refine af ⟨g',w,_,hstp,(0,0),.left _ _ (show 0<Qp .ac+Wh .qt by decide),af ⟨rfl,hrun',Hp.join O.hk hR _ _ (Rz Hh),?_,⟨sent,D9,hpost,hfb,h.msgs⟩,⟨⟨_,_,Hh⟩,h.ch⟩⟩⟩
  rw [Gs.woken]
  rcases Gs with⟨x,_⟩|⟨_,hqd⟩
  ·exact absurd rfl x
  ·refine⟨rb,?_⟩
   rw [x9 t (g:=C.k) (g':=0) (by have:=O.hk;omega) _ (fun op Bt=>B6 Bt),Hp.dB]
   exact hqd
end
section
variable {C:Pu} {bs0:List C.β} {sent:List (C.β×tj)} {w w':qq} {t:bd} {a b:gq} {ta ta':AT} {tb tb':BT} {ra rb:Nat} {bs:List C.β}
theorem AD(O:C.Ok){ad:Addr}{v:tj}(had:ad.block=C.Wg)(hw:Dq C.ty C.Wg w->Dq C.ty C.Wg (w.setCell ad v)):RA C sent w (w.setCell ad v):=
 PL O (Hv ad v fun i o k=>by rw [had];exact(O.ka i o k).1) (Hv ad v fun i o k=>by rw [had];exact(O.kb i o k).1) hw
theorem J2.privB(O:C.Ok)(h:J2 C sent ta tb ra rb a b w t)(hq:tb≠.qt){b':gq}{es:Array Event}(D:DB C sent w w' es)(Hf:tb≠.r0->es=#[]/\w'=w){n:Nat}(hG:Goes C.P vp (RB C) (DBt C sent tb) (RS C sent tb) n b' w') :
  ∃Ib,Ib<=ra+1/\J2 C sent ta tb Ib (n+1) (woken C.P b b' w' a) b' w' (t++MemOp.ofEvents C.k b.frame.fn b.frame.place es):=by
 obtain⟨dB,Hp,Gs⟩:=h.ti
 obtain⟨s,r,tm,hc⟩:=h.ch
 obtain⟨st,sm,Dk,Hh⟩:=h.wg
 obtain⟨Ib,hle,hnz,hsa⟩:=(h.sa.rely D.toA).woken (P:=C.P) b b' w'
 have hdB:dB=dfB tb:=by
  rcases Gs with⟨_,e,_⟩|⟨e,_⟩
  ·exact e
  ·exact absurd e hq
 refine⟨Ib,hle,⟨s,r,tm,by rw [D.ch];exact hc⟩,⟨st,sm,Dk,by unfold D3 at *;rw [D.wg];exact Hh⟩,⟨dB,U8 O Hp D _ _,af ⟨hq,hdB,n,rfl,hG⟩⟩,hsa,fun e=>absurd e hq,fun x hx=>D.msg x hx (h.msgs x hx),fun Cu=>?_⟩
 obtain⟨hfb,r,hR⟩:=h.rel Cu
 refine⟨(Hf Cu).2▸hfb,r,?_⟩
 rw [(Hf Cu).1]
 simpa [MemOp.ofEvents] using hR
theorem J2.wgB(O:C.Ok)(h:J2 C sent ta tb ra rb a b w t){b':gq}{es:Array Event}(Hf:∀e∈es,GL C.Wg e){rb' dB':Nat}{st sm:Int}(hw:w'=w∨∃ad v,w'=w.setCell ad v/\ad.block=C.Wg)(Dk:Ip ta tb'=lp (st,sm))(Hh:D3 C.ty C.Wg w' st sm)(hq:tb≠.qt)(hd:l7 (dfB tb) es=dB')(hs:Ow C sent tb' rb' dB' b' w')(hnb:tb'=.qt->(ta=.wm∨ta=.w3)->(mayWake C.P b && b'.status != .blocked && b'.status != .waiting)=s7)(hrel:C.FB sent w'/\∃r,RI C.k C.Wg (t++MemOp.ofEvents C.k b.frame.fn b.frame.place es) r) :
  ∃Ib,J2 C sent ta tb' Ib rb' (woken C.P b b' w' a) b' w' (t++MemOp.ofEvents C.k b.frame.fn b.frame.place es):=by
 obtain⟨dB,Hp,Gs⟩:=h.ti
 obtain⟨s,r,tm,hc⟩:=h.ch
 have hdB:dB=dfB tb:=by
  rcases Gs with⟨_,e,_⟩|⟨e,_⟩
  ·exact e
  ·exact absurd e hq
 have hRA:RA C sent w w':=by
  rcases hw with rfl|⟨ad,v,rfl,had⟩
  ·exact RA.refl _ _ _
  ·exact AD O had fun _=>⟨st,sm,Hh⟩
 have hG:Jy w w':=by
  rcases hw with rfl|⟨ad,v,rfl,had⟩
  ·exact .refl _
  ·exact Uc ad v
 have hC:w'.heap[C.Ch]? = w.heap[C.Ch]?:=by
  exact Ds1
 have hti':=X9 O Hp hG (Rz Hh) Hf b.frame.fn b.frame.place
 rw [hdB,hd] at hti'
 have hsa0:=h.sa.rely hRA
 have key:∃Ib,(tb'=.qt->Ib≠0)/\I6 C sent ta Ib (woken C.P b b' w' a) w':=by
  by_cases hqt:tb'=.qt
  ·by_cases hta:ta=.wm∨ta=.w3
   ·obtain⟨Ib,h1,h2⟩:=hsa0.wakes (P:=C.P) w' (hnb hqt hta)
    exact⟨Ib,fun _=>h1,h2⟩
   ·have:ra≠0:=by
     rcases hsa0.status with⟨_,x⟩|⟨_,_,x⟩
     ·exact x
     ·exact absurd (o5 x) hta
    obtain⟨Ib,_,h1,h2⟩:=hsa0.woken (P:=C.P) b b' w'
    exact⟨Ib,fun _=>h1 this,h2⟩
  ·obtain⟨Ib,_,_,h2⟩:=hsa0.woken (P:=C.P) b b' w'
   exact⟨Ib,fun e=>absurd e hqt,h2⟩
 obtain⟨Ib,h1,h2⟩:=key
 exact⟨Ib,⟨s,r,tm,by rw [hC];exact hc⟩,⟨st,sm,Dk,Hh⟩,⟨dB',hti',hs⟩,h2,h1,fun x hx=>hRA.msg x hx (h.msgs x hx),fun _=>hrel⟩
theorem XP(Wg:Nat):∀e∈(#[Yh (Gq Wg)]:Array Event),GL Wg e:=fun e he=>by simp at he;subst he;exact af ⟨_,_,rfl,rfl⟩
theorem XQ(Wg:Nat):∀e∈(#[QY (Gq Wg)]:Array Event),GL Wg e:=fun e he=>by simp at he;subst he;exact af ⟨_,_,rfl,rfl⟩
theorem CJ(Wg:Nat):∀e∈(#[Yh (Gq Wg),QY (Gq Wg)]:Array Event),GL Wg e:=fun e he=>by
 exact M0e
theorem TC(Wg:Nat):∀e∈semEvents (Yi Wg),GL Wg e:=fun e he=>by
 exact Cnu
theorem Rc{r:Nat}{es:Array Event}(h:RI C.k C.Wg t r)(hd:Deaf t C.k=1)(Hf:es=#[Yh (Gq C.Wg)]∨es=#[QY (Gq C.Wg)]∨es=#[Yh (Gq C.Wg),QY (Gq C.Wg)]∨es=semEvents (Yi C.Wg))(fn:du)(pos:String):RI C.k C.Wg (t++MemOp.ofEvents C.k fn pos es) r:=by
 refine h.appOwn fn pos es (fun e he=>?_) (fun j e he=>?_)
 ·rcases Hf with rfl|rfl|rfl|rfl <;> simp [semEvents,Yh,QY] at he
  ·subst he;simp
  ·subst he;simp
  ·rcases he with rfl|rfl <;> simp
  ·rcases he with rfl|rfl|rfl|rfl <;> simp
 ·rw [hd]
  rcases Hf with rfl|rfl|rfl|rfl
  ·match j,he with
   | 0,he=>simp at he;subst he;exact o5 ⟨⟨_,_,rfl,rfl⟩,by simp [l7]⟩
  ·match j,he with
   | 0,he=>simp at he;subst he;exact o5 ⟨⟨_,_,rfl,rfl⟩,by simp [l7]⟩
  ·match j,he with
   | 0,he=>simp at he;subst he;exact o5 ⟨⟨_,_,rfl,rfl⟩,by simp [l7]⟩
   | 1,he=>simp at he;subst he;exact o5 ⟨⟨_,_,rfl,rfl⟩,by simp [l7,Yh]⟩
  ·match j,he with
   | 0,he=>simp [semEvents] at he;subst he;exact af rfl
   | 1,he=>simp [semEvents] at he;subst he;exact o5 ⟨⟨_,_,rfl,rfl⟩,by simp [l7,semEvents]⟩
   | 2,he=>simp [semEvents] at he;subst he;exact o5 ⟨⟨_,_,rfl,rfl⟩,by simp [l7,semEvents]⟩
   | 3,he=>simp [semEvents] at he;subst he;exact af rfl
theorem Qk(Stop:BT)(hq:Stop≠.qt)(hr:Stop≠.r0){n:Nat}{g:gq}{w:qq}(h:Goes C.P vp (RB C) D0 (RS C sent Stop) n g w):Ow C sent Stop (n+1) (dfB Stop) g w:=by
 refine af ⟨hq,rfl,n,rfl,?_⟩
 cases Stop <;> first|exact absurd rfl hr|exact h
theorem GI{P:Program}{g g':gq}(h:mayWake P g=s7)(hs:g'.status=.running∨g'.status=.finished):(mayWake P g && g'.status != .blocked && g'.status != .waiting)=s7:=by
 rw [h]
 rcases hs with e|e <;> rw [e] <;> rfl
theorem ZK(O:C.Ok)(D9:sent.map (·.1)=bs0)(h:J2 C sent ta tb ra rb a b w t)(D1:b.status=.running) :
  StepB C.P C.k a b w t fun a' b' w' t'=>∃μ',R6 μ' (Qp ta+Wh tb,ra+2 * rb)/\J C bs0 μ' a' b' w' t':=by
 obtain⟨dB,Hp,Gs⟩:=h.ti
 have hsb':=Gs
 obtain⟨st,sm,Dk,Hh⟩:=h.wg
 rcases Gs with⟨hq,rfl,n,rfl,hg⟩|⟨rfl,hqd⟩
 rotate_left
 ·
  cases rb with
  | zero=>rw [hqd.1] at D1;cases D1
  | succ m=>
   rcases hqd with⟨hf,_⟩|⟨_,g',es,hm,hstp,hq'⟩
   ·rw [hf] at D1;cases D1
   ·obtain⟨s,r,tm,hc⟩:=h.ch
    obtain⟨Ib,hle,hnz,hsa⟩:=h.sa.woken (P:=C.P) b g' w
    refine af ⟨g',w,es,hstp w,_,.right (b₂:=ra+2 * (m+1)) _ (show Ib+2 * m<ra+2 * (m+1) by omega),o5 (af ⟨sent,ta,.qt,Ib,m,rfl,D9,⟨s,r,tm,hc⟩,⟨st,sm,Dk,Hh⟩,⟨_,?_,o5 ⟨rfl,hq'⟩⟩,hsa,fun _=>hnz (h.nb rfl),h.msgs,fun Cu=>⟨(h.rel Cu).1,?_⟩⟩)⟩
    ·refine Hp.appB O.parts O.hk (.refl w) (fun op Bt=>B6 Bt) (fun op Bt x hx _=>?_) ?_ (fun op Bt=>?_)
     ·exact Rvz
     ·rw [Deaf_own,Hp.dB]
     ·exact Xls
    ·obtain⟨r,hR⟩:=(h.rel Cu).2
     exact Tji
 rcases hg.cases with E5|⟨n',rfl,Co⟩
 rotate_left
 ·obtain⟨g',w1,es,hst1,D,hG⟩:=Co w (RB.refl _ _)
  obtain⟨Ib,hle,hJ⟩:=h.privB O hq D.db (fun hn=>D.nil hn) hG
  exact af ⟨g',w1,es,hst1,_,.right _ (show Ib+2 * (n'+1)<ra+2 * (n'+1+1) by omega),o5 (af ⟨sent,ta,tb,Ib,n'+1,rfl,D9,hJ⟩)⟩
 have hS:=E5 w (RB.refl _ _)
 cases tb with
 | qt=>exact absurd rfl hq
 | r0=>
  obtain⟨_,hfb,g',hstp,m,hG⟩:=hS
  obtain⟨Ib,hJ⟩:=h.wgB O (tb':=.k1) (es:=#[Pt (.releaseMerge (Gq C.Wg))]) (fun e he=>by simp at he;exact o5 (o5 (o5 he))) (af rfl) (by revert Dk;cases ta <;> exact id) Hh hq rfl (Qk .k1 Ae Ae hG) (fun e=>by cases e) ⟨hfb,_,RI.new Hp.dB _ _⟩
  exact af ⟨g',w,_,hstp,_,.left _ _ (cN (show Wh .k1<Wh .r0 by decide) _),o5 (af ⟨sent,ta,.k1,Ib,m+1,rfl,D9,hJ⟩)⟩
 | k1=>
  obtain⟨_,g',hstp,m,hG⟩:=hS
  obtain⟨hfb,r,hR⟩:=h.rel Ae
  obtain⟨Ib,hJ⟩:=h.wgB O (tb':=.d1) (b':=g') (es:=#[Pt .disable]) (fun e he=>by simp at he;exact o5 (af he)) (af rfl) (by revert Dk;cases ta <;> exact id) Hh hq rfl (Qk .d1 Ae Ae hG) (fun e=>by cases e)
   ⟨hfb,r,hR.appOwn _ _ _ (fun e he=>by simp at he;subst he;simp [Pt]) fun j e he=>af (by have:=dJ he;simp at this;subst this;rfl)⟩
  exact af ⟨g',w,_,hstp,_,.left _ _ (cN (show Wh .d1<Wh .k1 by decide) _),o5 (af ⟨sent,ta,.d1,Ib,m+1,rfl,D9,hJ⟩)⟩
 | d1=>
  obtain⟨_,hK,hK1⟩:=hS
  obtain⟨hfb,r,hR⟩:=h.rel Ae
  have:(st=KK/\sm=0/\Ip ta .qt=lp (0,0)/\ta≠.wm/\ta≠.w3)∨(st=KK+1/\sm=0/\Ip ta .d2=lp (1,0)):=by
   exact Shg
  rcases this with⟨rfl,rfl,hst',n1,n2⟩|⟨rfl,rfl,hst'⟩
  ·obtain⟨g',hstp,q,hqd⟩:=hK Hh
   obtain⟨Ib,hJ⟩:=h.wgB O (tb':=.qt) (CJ _) (o5 ⟨_,_,rfl,rfl⟩) hst' (Jp Hh 0) hq rfl (o5 ⟨rfl,hqd⟩) (fun _ e=>e.elim (fun e=>absurd e n1) (fun e=>absurd e n2))
    ⟨O.fbB _ _ _ (Hv _ _ fun i o k=>(O.kb i o k).1) hfb,r,Rc hR Hp.dB (o5 (o5 (af rfl))) _ _⟩
   exact af ⟨g',_,_,hstp,_,.left _ _ (cN (show Wh .qt<Wh .d1 by decide) _),o5 (af ⟨sent,ta,.qt,Ib,q,rfl,D9,hJ⟩)⟩
  ·obtain⟨g',hstp,m,hG⟩:=hK1 Hh
   obtain⟨Ib,hJ⟩:=h.wgB O (tb':=.d2) (CJ _) (o5 ⟨_,_,rfl,rfl⟩) hst' (Jp Hh 1) hq rfl (Qk .d2 Ae Ae hG) (fun e=>by cases e)
    ⟨O.fbB _ _ _ (Hv _ _ fun i o k=>(O.kb i o k).1) hfb,r,Rc hR Hp.dB (o5 (o5 (af rfl))) _ _⟩
   exact af ⟨g',_,_,hstp,_,.left _ _ (cN (show Wh .d2<Wh .d1 by decide) _),o5 (af ⟨sent,ta,.d2,Ib,m+1,rfl,D9,hJ⟩)⟩
 | d2=>
  obtain⟨_,hS⟩:=hS
  obtain⟨hfb,r,hR⟩:=h.rel Ae
  have:st=1/\sm=0/\Ip ta .d3=lp (1,0):=by
   exact Shg
  obtain⟨rfl,rfl,hst'⟩:=this
  obtain⟨g',hstp,m,hG⟩:=hS Hh
  obtain⟨Ib,hJ⟩:=h.wgB O (tb':=.d3) (XP _) (af rfl) hst' Hh hq rfl (Qk .d3 Ae Ae hG) (fun e=>by cases e) ⟨hfb,r,Rc hR Hp.dB (af rfl) _ _⟩
  exact af ⟨g',_,_,hstp,_,.left _ _ (cN (show Wh .d3<Wh .d2 by decide) _),o5 (af ⟨sent,ta,.d3,Ib,m+1,rfl,D9,hJ⟩)⟩
 | d3=>
  obtain⟨_,hS⟩:=hS
  obtain⟨hfb,r,hR⟩:=h.rel Ae
  have:st=1/\sm=0/\Ip ta .d4=lp (0,0):=by
   exact Shg
  obtain⟨rfl,rfl,hst'⟩:=this
  obtain⟨g',hstp,m,hG⟩:=hS ⟨_,Hh⟩
  obtain⟨Ib,hJ⟩:=h.wgB O (tb':=.d4) (XQ _) (o5 ⟨_,_,rfl,rfl⟩) hst' (Jp Hh 0) hq rfl (Qk .d4 Ae Ae hG) (fun e=>by cases e) ⟨O.fbB _ _ _ (Hv _ _ fun i o k=>(O.kb i o k).1) hfb,r,Rc hR Hp.dB (o5 (af rfl)) _ _⟩
  exact af ⟨g',_,_,hstp,_,.left _ _ (cN (show Wh .d4<Wh .d3 by decide) _),o5 (af ⟨sent,ta,.d4,Ib,m+1,rfl,D9,hJ⟩)⟩
 | d4=>
  obtain⟨_,hS⟩:=hS
  obtain⟨hfb,r,hR⟩:=h.rel Ae
  have:st=0/\sm=0/\Ip ta .qt=lp (0,1):=by
   exact Shg
  obtain⟨rfl,rfl,hst'⟩:=this
  obtain⟨g',hstp,hmw,q,hqd⟩:=hS ⟨_,Hh⟩
  obtain⟨Ib,hJ⟩:=h.wgB O (tb':=.qt) (TC _) (o5 ⟨_,_,rfl,rfl⟩) hst' (Yd Hh 1) hq rfl (o5 ⟨rfl,hqd⟩) (fun _ _=>GI hmw hqd.status)
   ⟨O.fbB _ _ _ (Hv _ _ fun i o k=>(O.kb i o k).1) hfb,r,Rc hR Hp.dB (o5 (o5 (o5 rfl))) _ _⟩
  exact af ⟨g',_,_,hstp,_,.left _ _ (cN (show Wh .qt<Wh .d4 by decide) _),o5 (af ⟨sent,ta,.qt,Ib,q,rfl,D9,hJ⟩)⟩
end
section
variable {C:Pu} {bs0:List C.β} {sent:List (C.β×tj)} {w w':qq} {t:bd} {a b:gq} {ra rb:Nat} {bs:List C.β}
theorem Nv(O:C.Ok){o:Obj}(E6:B7 o:=by trivial):RA C sent w { w with heap:=w.heap.setIfInBounds C.Ch o }/\RB C w { w with heap:=w.heap.setIfInBounds C.Ch o }:=by
 have hw:Dq C.ty C.Wg w->Dq C.ty C.Wg { w with heap:=w.heap.setIfInBounds C.Ch o }:=Nb (Gk O.neq)
 exact⟨PL O (Oc E6 fun i o k=>(O.ka i o k).2) (Oc E6 fun i o k=>(O.kb i o k).2) hw,⟨Oc E6 fun i o k=>(O.kb i o k).2,hw⟩⟩
theorem Jh.again{g:gq}{w:qq}{cs:Array CommCase}{sh:CommShape}(h:Jh C bs sent g w):Jh C bs sent { parked (core g) cs sh with status:=.running } w:=by
 have e:stepG C.P s7 { parked (core g) cs sh with status:=.running } w=stepG C.P s7 g w:=stepG_same rfl rfl rfl w
 cases bs <;> exact let⟨_,z,h1,h2⟩:=h;⟨rfl,z,by rw [e];exact h1,h2⟩
theorem OJ{b':C.β}{v:tj}{bs':List C.β}(h:sent.map (·.1)++b' :: bs'=bs0):(sent ++ [(b',v)]).map (·.1)++bs'=bs0:=by
 simpa using h
theorem meets(O:C.Ok)(h:J1 C sent bs ra rb a b w t){b':C.β}{bs':List C.β}(e:bs=b' :: bs')(D9:sent.map (·.1)++bs=bs0){v:tj}{s r:Nat}{tm:Bool}(hc:w.heap[C.Ch]? = lp (.chan 0 #[] vp s r tm)){a' b'':gq}(hA:Qq C bs' (sent ++ [(b',v)]) a' (w.setChan C.Ch 0 #[] vp (s+1) (r+1) tm))(hB:O9 C bs' (sent ++ [(b',v)]) b'' (w.setChan C.Ch 0 #[] vp (s+1) (r+1) tm))(hm:C.Msg b' v w){u:bd}(hu:∀op∈u,op.act.touch? = none/\(∀m,op.act≠.mark m)/\op.act.low (w.setChan C.Ch 0 #[] vp (s+1) (r+1) tm).heap.size){x:Nat} :
  ∃μ',R6 μ' (bs.length+40,x)/\J C bs0 μ' a' b'' (w.setChan C.Ch 0 #[] vp (s+1) (r+1) tm) (t++u):=by
 obtain⟨n,hA⟩:=(Tf C _ _ _ _).1 hA
 obtain⟨m,hB⟩:=(Tj C _ _ _ _).1 hB
 subst e
 have Ih:=Nv (C:=C) (sent:=sent) (w:=w) O (o:=.chan 0 #[] vp (s+1) (r+1) tm)
 refine⟨(bs'.length+40,(n+1)+2 * (m+1)),.left _ _ Ae,o5 (o5 ⟨bs',sent ++ [(b',v)],n+1,m+1,rfl,OJ D9,⟨s+1,r+1,tm,Nw (Ax hc)⟩,?_,GG O h.ti (Ub hc rfl) hu,af ⟨n,rfl,hA⟩,af ⟨m,rfl,hB⟩,Ab,fun y hy=>?_⟩)⟩
 ·have:=h.wg
  unfold D3 at this ⊢
  rw [←this]
  exact Gk O.neq
 ·rcases cH.1 hy with hy|hy
  ·exact O.msgB _ _ _ _ Ih.2.keep (h.msgs y hy)
  ·simp at hy
   subst hy
   exact O.msgB _ _ _ _ Ih.2.keep hm
theorem Y7{x y z u:MemOp}{c s r cap:Nat}(hc:c<w.heap.size)(h1:x.act=.send c s)(h2:y.act=.recv c r cap)(h3:z.act=.sendDone c s)(h4:u.act=.recvDone c r){g:Nat}{fn:du}{pos:String} :
  ∀op∈MemOp.ofEvents g fn pos #[]++#[x,y,z,u],op.act.touch? = none/\(∀m,op.act≠.mark m)/\op.act.low w.heap.size:=fun op Bt=>by
 simp [MemOp.ofEvents] at Bt
 rcases Bt with rfl|rfl|rfl|rfl
 ·rw [h1];exact⟨rfl,Ae,hc⟩
 ·rw [h2];exact⟨rfl,Ae,hc⟩
 ·rw [h3];exact⟨rfl,Ae,hc⟩
 ·rw [h4];exact⟨rfl,Ae,hc⟩
theorem Qd{t:bd}{g:Nat}{fn:du}{pos:String}:t++MemOp.ofEvents g fn pos #[]=t:=by simp [MemOp.ofEvents]
theorem ZI(O:C.Ok)(D9:sent.map (·.1)++bs=bs0)(h:J1 C sent bs ra rb a b w t)(D1:a.status=.running) :
  StepA C.P C.k a b w t fun a' b' w' t'=>∃μ',R6 μ' (bs.length+40,ra+2 * rb)/\J C bs0 μ' a' b' w' t':=by
 obtain⟨s,r,tm,hc⟩:=h.ch
 rcases h.sa with⟨n,rfl,hg⟩|⟨_,g,z,rfl,_⟩
 rotate_left
 ·cases D1
 rcases hg.cases with E5|⟨n',rfl,Co⟩
 rotate_left
 ·obtain⟨g',w1,es,Dk,D,hG⟩:=Co w (RA.refl _ _ _)
  have hc':w1.heap[C.Ch]? = lp (.chan 0 #[] vp s r tm):=by rw [D.ch];exact hc
  refine af ⟨g',w1,es,Dk,_,.right _ (show(n'+1)+2 * rb<(n'+1+1)+2 * rb by omega),o5 (o5 ⟨bs,sent,n'+1,rb,rfl,D9,⟨s,r,tm,hc'⟩,by have:=h.wg;unfold D3 at *;rw [D.wg];exact this,AO O h.ti D _ _,af ⟨n',rfl,hG⟩,?_,Ab,fun x hx=>O.msgB _ _ _ _ D.keep (h.msgs x hx)⟩)⟩
  have Gs:=h.sb.rely O D.toB
  rw [Gs.woken hc']
  exact Gs
 have hS:=E5 w (RA.refl _ _ _)
 obtain⟨_,z,hcm⟩:=Jh.comm C hS
 rcases h.sb with⟨m,rfl,hgb⟩|⟨rfl,b',bs',gb,v,zb,rfl,rfl,hm,Bo⟩
 ·
  refine o5 (af ⟨core a,C.Ch,z,#[],s,r,tm,hcm,hc,?_,_,.right _ (show 0+2 * (m+1)<(n+1)+2 * (m+1) by omega),o5 (o5 ⟨bs,sent,0,m+1,rfl,D9,⟨s,r,tm,hc⟩,h.wg,?_,o5 ⟨rfl,a,z,rfl,E5⟩,af ⟨m,rfl,hgb⟩,Ab,h.msgs⟩)⟩)
  ·rw [hgb.running (fun _ _=>Sx.running C) w (RB.refl _ _)];simp
  ·rw [Qd];exact h.ti
 ·
  obtain⟨_,z',hcm',hA⟩:=hS
  have Ih:=Nv (C:=C) (sent:=sent) (w:=w) O (o:=.chan 0 #[] vp (s+1) (r+1) tm)
  refine o5 (o5 (af ⟨core a,C.Ch,z,#[],s,r,tm,core gb,v,zb,hcm,hc,rfl,meets O h rfl D9 hc (hA v _ Ih.1 (O.msgB _ _ _ _ Ih.2.keep hm)) (Bo _ Ih.2) hm (Y7 (c:=C.Ch) (s:=s) (r:=r) (cap:=0) ?_ rfl rfl rfl rfl)⟩))
  have:=Ax hc
  simpa [World.setChan] using this
theorem stepB1(O:C.Ok)(D9:sent.map (·.1)++bs=bs0)(h:J1 C sent bs ra rb a b w t)(D1:b.status=.running) :
  StepB C.P C.k a b w t fun a' b' w' t'=>∃μ',R6 μ' (bs.length+40,ra+2 * rb)/\J C bs0 μ' a' b' w' t':=by
 obtain⟨s,r,tm,hc⟩:=h.ch
 rcases h.sb with⟨n,rfl,hg⟩|⟨_,_,_,g,v,z,_,rfl,_⟩
 rotate_left
 ·cases D1
 rcases hg.cases with E5|⟨n',rfl,Co⟩
 rotate_left
 ·obtain⟨g',w1,es,Dk,D,hG⟩:=Co w (RB.refl _ _)
  have hc':w1.heap[C.Ch]? = lp (.chan 0 #[] vp s r tm):=by rw [D.ch];exact hc
  refine af ⟨g',w1,es,Dk,_,.right _ (show ra+2 * (n'+1)<ra+2 * (n'+1+1) by omega),o5 (o5 ⟨bs,sent,ra,n'+1,rfl,D9,⟨s,r,tm,hc'⟩,by have:=h.wg;unfold D3 at *;rw [D.wg];exact this,U8 O h.ti D _ _,?_,af ⟨n',rfl,hG⟩,Ab,fun x hx=>D.msg x hx (h.msgs x hx)⟩)⟩
  have hsa:=h.sa.rely D.toA
  rw [hsa.woken hc']
  exact hsa
 have hS:=E5 w (RB.refl _ _)
 cases bs with
 | nil=>
  obtain⟨_,hmw,hcl⟩:=hS
  obtain⟨g₂,hstp,hrun₂,m,hG⟩:=hcl s r tm hc
  have Ih:=Nv (C:=C) (sent:=sent) (w:=w) O (o:=.chan 0 #[] s7 s r tm)
  have hc':(w.shut C.Ch s r tm).heap[C.Ch]? = lp (.chan 0 #[] s7 s r tm):=Nw (Ax hc)
  have hall':sent.map (·.1)=bs0:=by simpa using D9
  have Cg:C.Ch<(w.shut C.Ch s r tm).heap.size:=Ax hc'
  have key:∃Ib,Ib≠0/\I6 C sent .rc Ib (woken C.P b g₂ (w.shut C.Ch s r tm) a) (w.shut C.Ch s r tm):=by
   rcases h.sa.rely Ih.1 with⟨k,rfl,hga⟩|⟨_,g,z,rfl,hs⟩
   ·rw [Ep (af (hga.running (fun _ _=>Jh.running) _ (RA.refl _ _ _)))]
    exact⟨k+1,Ab,af ⟨k,rfl,hga⟩⟩
   ·refine⟨1,Ab,af ⟨0,rfl,fun w₁ h₁=>?_⟩⟩
    have e:woken C.P b g₂ (w.shut C.Ch s r tm) (parked (core g) #[rcase C.Ch z] (.recv s7)) = { parked (core g) #[rcase C.Ch z] (.recv s7) with status:=.running }:=by
     unfold woken
     rw [aQ (GI hmw (af hrun₂))]
     exact again_recv_closed hc'
    rw [e]
    exact Jh.again (bs:=[]) (hs w₁ h₁)
  obtain⟨Ib,hnz,hsa⟩:=key
  refine af ⟨g₂,_,_,hstp,(Qp .rc+Wh .r0,Ib+2 * (m+1)),.left _ _ (by simp [Qp,Wh]),o5 (af ⟨sent,.rc,.r0,Ib,m+1,rfl,hall',⟨s,r,tm,hc'⟩,⟨KK,0,rfl,?_⟩,⟨0,AN O h.ti (show Jy w (w.shut C.Ch s r tm) from Ub hc rfl) Cg _ _,af ⟨Ae,rfl,m,rfl,hG⟩⟩,hsa,(fun e=>by cases e),fun x hx=>O.msgB _ _ _ _ Ih.2.keep (h.msgs x hx),fun e=>absurd rfl e⟩)⟩
  have:=h.wg
  unfold D3 at this ⊢
  rw [←this]
  exact Gk O.neq
 | cons b' bs'=>
  obtain⟨_,v,z,hcm,hm,Bo⟩:=hS
  rcases h.sa with⟨k,rfl,hga⟩|⟨rfl,g,za,rfl,hs⟩
  ·refine o5 (af ⟨core b,C.Ch,v,z,#[],s,r,tm,hcm,hc,?_,_,.right _ (show(k+1)+2 * 0<(k+1)+2 * (n+1) by omega),o5 (o5 ⟨b' :: bs',sent,k+1,0,rfl,D9,⟨s,r,tm,hc⟩,h.wg,?_,af ⟨k,rfl,hga⟩,o5 ⟨rfl,b',bs',b,v,z,rfl,rfl,hm,Bo⟩,Ab,h.msgs⟩)⟩)
   ·rw [hga.running (fun _ _=>Jh.running) w (RA.refl _ _ _)];simp
   ·rw [Qd];exact h.ti
  ·obtain⟨_,z',hcm',hA⟩:=hs w (RA.refl _ _ _)
   have Ih:=Nv (C:=C) (sent:=sent) (w:=w) O (o:=.chan 0 #[] vp (s+1) (r+1) tm)
   refine o5 (o5 ⟨core b,C.Ch,v,z,#[],s,r,tm,core g,za,hcm,hc,rfl,meets O h rfl D9 hc (hA v _ Ih.1 (O.msgB _ _ _ _ Ih.2.keep hm)) (Bo _ Ih.2) hm (Y7 (c:=C.Ch) (s:=s) (r:=r) (cap:=0) ?_ rfl rfl rfl rfl)⟩)
   have:=Ax hc
   simpa [World.setChan] using this
end
open Go.ConcN (sumTo upd sumTo_upd upd_ne upd_same)
section
variable {C:Pu} {bs0:List C.β} {w:qq} {t:bd} {a b:gq} {μ:Nat×Nat}
theorem Fin.at(O:C.Ok)(h:Fin C bs0 a b w t)(d:Nat):Fin C bs0 a b (w.at d) t:=
 ⟨h.run,h.past,h.quits,let⟨s,h1,h2,h4,h3⟩:=h.post;⟨s,h1,(O.postAt _ _ _ _).2 h2,O.fbB _ _ _ (.at _ _ _) h4,fun x hx=>O.msgB _ _ _ _ (.at _ _ _) (h3 x hx)⟩,h.shut⟩
theorem Gf.back(K:Nat->Obj->Prop)(w:qq)(d:Nat):Gf K (w.at d) w:=⟨rfl,rfl,rfl,aA _,fun _ _ h _=>h,fun _ _ h _=>h⟩
theorem Fin.back(O:C.Ok)(d:Nat)(h:Fin C bs0 a b (w.at d) t):Fin C bs0 a b w t:=
 ⟨h.run,h.past,h.quits,let⟨s,h1,h2,h4,h3⟩:=h.post;⟨s,h1,(O.postAt _ _ _ _).1 h2,O.fbB _ _ _ (.back _ _ d) h4,fun x hx=>O.msgB _ _ _ _ (.back _ _ d) (h3 x hx)⟩,h.shut⟩
theorem J.at(O:C.Ok)(d:Nat)(h:J C bs0 μ a b w t):J C bs0 μ a b (w.at d) t:=by
 rcases h with⟨e,h⟩|⟨sent,ta,tb,ra,rb,e,D9,h⟩|⟨bs,sent,ra,rb,e,D9,h⟩
 ·exact af ⟨e,h.at O d⟩
 ·obtain⟨dB,Hp,Gs⟩:=h.ti
  exact o5 (af ⟨sent,ta,tb,ra,rb,e,D9,h.ch,h.wg,⟨dB,Hp.at O d,Gs.rely (VY d)⟩,h.sa.rely (VX O d),h.nb,fun x hx=>O.msgB _ _ _ _ (.at _ _ _) (h.msgs x hx),fun hn=>⟨O.fbB _ _ _ (.at _ _ _) (h.rel hn).1,(h.rel hn).2⟩⟩)
 ·exact o5 (o5 ⟨bs,sent,ra,rb,e,D9,h.ch,h.wg,h.ti.at O d,h.sa.rely (VX O d),h.sb.rely O (VY d),h.nb,fun x hx=>O.msgB _ _ _ _ (.at _ _ _) (h.msgs x hx)⟩)
theorem J.mute(O:C.Ok){i:Nat}{fn:du}{pos:String}{es:Array Event}(h0:i≠0)(hk:i≠C.k)(hm:∀e∈es,Event.mute e=s7)(h:J C bs0 μ a b w t):J C bs0 μ a b w (t++MemOp.ofEvents i fn pos es):=by
 rcases h with⟨e,h⟩|⟨sent,ta,tb,ra,rb,e,D9,h⟩|⟨bs,sent,ra,rb,e,D9,h⟩
 ·refine af ⟨e,h.run,h.past.mute h0 hm,?_,h.post,h.shut⟩
  rw [x9 t (g:=C.k) (g':=i) hk _ (fun op Bt=>B6 Bt)]
  exact h.quits
 ·obtain⟨dB,Hp,Gs⟩:=h.ti
  refine o5 (af ⟨sent,ta,tb,ra,rb,e,D9,h.ch,h.wg,⟨dB,Ol O Hp h0 hk hm _ _,Gs⟩,h.sa,h.nb,h.msgs,fun hn=>⟨(h.rel hn).1,let⟨r,hR⟩:=(h.rel hn).2;⟨r,hR.appOther fun op Bt=>?_⟩⟩⟩)
  obtain⟨e,he,rfl⟩:=mv Bt
  refine⟨hk,fun x=>?_⟩
  have:=hm e he
  obtain⟨loc,wr,sy⟩:=e
  cases loc with
  | mark m=>
   cases wr <;> cases sy <;> simp [MemAct.ofEvent] at x <;> subst x <;> simp [Event.mute] at this
  | _=>simp [Event.mute] at this
 ·exact o5 (o5 ⟨bs,sent,ra,rb,e,D9,h.ch,h.wg,Ol O h.ti h0 hk hm _ _,h.sa,h.sb,h.nb,h.msgs⟩)
theorem J.wake(O:C.Ok)(g g':gq)(h:J C bs0 μ a b w t):∃μ',J C bs0 μ' (woken C.P g g' w a) (woken C.P g g' w b) w t:=by
 rcases h with⟨e,h⟩|⟨sent,ta,tb,ra,rb,e,D9,h⟩|⟨bs,sent,ra,rb,e,D9,h⟩
 ·obtain⟨n,hq⟩:=h.quits
  refine⟨(0,0),af ⟨rfl,?_⟩⟩
  rw [Ep (af h.run),woken_quitsD hq]
  exact h
 ·obtain⟨dB,Hp,Gs⟩:=h.ti
  obtain⟨Ib,_,hnz,hsa⟩:=h.sa.woken (P:=C.P) g g' w
  refine⟨_,o5 (af ⟨sent,ta,tb,Ib,rb,rfl,D9,h.ch,h.wg,⟨dB,Hp,?_⟩,hsa,fun e=>hnz (h.nb e),h.msgs,h.rel⟩)⟩
  rw [Gs.woken]
  exact Gs
 ·obtain⟨s,r,tm,hc⟩:=h.ch
  refine⟨_,o5 (o5 ⟨bs,sent,ra,rb,rfl,D9,h.ch,h.wg,h.ti,?_,?_,h.nb,h.msgs⟩)⟩
  ·rw [h.sa.woken hc];exact h.sa
  ·rw [h.sb.woken hc];exact h.sb
theorem J.awake(h:J C bs0 μ a b w t):awake a/\awake b/\(a.status=.running∨b.status=.running):=by
 have aw:∀{g:gq},(g.status=.running∨g.status=.blocked∨g.status=.finished)->Conc.awake g:=fun h t e=>by
  rcases h with x|x|x <;> rw [x] at e <;> cases e
 rcases h with⟨e,h⟩|⟨sent,ta,tb,ra,rb,e,D9,h⟩|⟨bs,sent,ra,rb,e,D9,h⟩
 ·obtain⟨n,hq⟩:=h.quits
  exact⟨aw (af h.run),aw (hq.status.imp id o5),af h.run⟩
 ·obtain⟨dB,Hp,Gs⟩:=h.ti
  rcases h.sa.status with⟨ha,hnz⟩|⟨ha,hz,_⟩
  ·exact⟨aw (af ha),aw (Gs.status.imp id fun x=>o5 x.1),af ha⟩
  ·rcases Gs.status with hb|⟨hb,hq⟩
   ·exact⟨aw (o5 (af ha)),aw (af hb),o5 hb⟩
   ·exact absurd hz (h.nb hq)
 ·rcases h.sa.status with⟨ha,hnz⟩|⟨ha,hz⟩
  ·exact⟨aw (af ha),aw (h.sb.status.imp (·.1) fun x=>af x.1),af ha⟩
  ·rcases h.sb.status with⟨hb,_⟩|⟨hb,hz'⟩
   ·exact⟨aw (o5 (af ha)),aw (af hb),o5 hb⟩
   ·exact absurd ⟨hz,hz'⟩ h.nb
theorem J.step(O:C.Ok)(h:J C bs0 μ a b w t):Fin C bs0 a b w t∨((a.status=.running->StepA C.P C.k a b w t fun a' b' w' t'=>∃μ',R6 μ' μ/\J C bs0 μ' a' b' w' t')/\(b.status=.running->StepB C.P C.k a b w t fun a' b' w' t'=>∃μ',R6 μ' μ/\J C bs0 μ' a' b' w' t')):=by
 rcases h with⟨e,h⟩|⟨sent,ta,tb,ra,rb,rfl,D9,h⟩|⟨bs,sent,ra,rb,rfl,D9,h⟩
 ·exact af h
 ·exact o5 ⟨ZJ O D9 h,ZK O D9 h⟩
 ·exact o5 ⟨ZI O D9 h,stepB1 O D9 h⟩
theorem JG(O:C.Ok){gs:Array gq}{sl:Option (Nat×Nat)}{q:Nat->Nat}(h0:gs[0]? = lp a)(hb:gs[C.k]? = lp b)(hO:Jz C.P t gs C.k q)(hJ:J C bs0 μ a b w t) :
  ∃(N:Nat) (gs':Array gq) (a':gq) (w':qq) (sl':Option (Nat×Nat)) (t':bd) (q':Nat->Nat),
   runNT C.P N (vx gs w sl) t=(.next (vx gs' w' sl'),t')/\gs'.size=gs.size/\gs'[0]? = lp a'/\a'.status=.running/\(∃sent,sent.map (·.1)=bs0/\C.PostA sent a' w'/\C.FB sent w'/\(∀x∈sent,C.Msg x.1 x.2 w')/\Wy C.ty C.Wg C.Ch w') /\
   Leavers C.P t' gs' q'/\Past (fun l=>C.Shun l∨Hy C.Wg l) w'.heap.size t':=by
 obtain⟨N,gs',a',b',w',sl',t',q',hr,hz,x0,xb,xF,xO⟩:=Z4 (P:=C.P) (k:=C.k) (lt:=R6) (J:=J C bs0) (Fin:=Fin C bs0) O.hk FN
  (fun μ a b w t d h=>h.at O d) (fun a b w t d h=>h.back O d) (fun μ a b w t i fn pos es h0 hk hm h=>h.mute O h0 hk hm) (fun μ a b w t g g' h=>h.wake O g g') (fun μ a b w t h=>h.awake) (fun μ a b w t h=>h.step O)
  (sumTo gs.size q) μ gs a b w sl t q (aA _) h0 hb hO hJ
 obtain⟨n,hq⟩:=xF.quits
 refine⟨N,gs',a',w',sl',t',upd q' C.k n,hr,hz,x0,xF.run,let⟨s,p1,p2,p3,p4⟩:=xF.post;⟨s,p1,p2,p3,p4,xF.shut⟩,⟨fun i g hi hg=>?_,xO.above⟩,xF.past⟩
 exact Mgr
end
open Go.ConcN (sumTo upd sumTo_upd upd_ne upd_same)
structure Iq(Shun:Loc->Prop)(B d:Nat)(t:bd):Prop where
 clean:∀said,¬Race said t
 known:∀i a,touchAt t i=lp a->a.loc.isMemory=s7->Knows t 0 i∨(Shun a.loc/\a.kind=.atomic)
 over:t.HandedOver
 hears:Deaf t 0=d
 seen:∀op∈t,op.act.low B
theorem Iq.of{Shun:Loc->Prop}{B:Nat}{t:bd}(h:Past Shun B t):Iq Shun B 0 t:=⟨h.clean,h.known,h.over,h.hears,h.seen⟩
theorem Iq.to{Shun:Loc->Prop}{B:Nat}{t:bd}(h:Iq Shun B 0 t):Past Shun B t:=⟨h.clean,h.known,h.over,h.hears,h.seen⟩
def EvD(Shun:Loc->Prop)(B:Nat)(e:Event):Prop:=(∀x,(MemAct.ofEvent e).touch? = lp x->Shun x.loc->x.kind≠.plain)/\(MemAct.ofEvent e).low B
section
variable {Shun:Loc->Prop} {B B' d:Nat} {t u:bd}
theorem Iq.mono(h:Iq Shun B d t)(hB:B<=B'):Iq Shun B' d t:=⟨h.clean,h.known,h.over,h.hears,fun op Bt=>MemAct.low_mono hB (h.seen op Bt)⟩
theorem Iq.own(h:Iq Shun B d t)(hB:B<=B'){fn:du}{pos:String}{es:Array Event}(Hf:∀e∈es,EvD Shun B' e):Iq Shun B' (l7 d es) (t++MemOp.ofEvents 0 fn pos es):=by
 refine⟨fun said=>noRace_append (h.clean said) (fun op Bt=>B6 Bt) fun i a ha op Bt b hb hc=>?_,fun i a ha hm=>?_,handedOver_app h.over fun op Bt=>af (B6 Bt),by rw [Deaf_own,h.hears],seen_app (fun op Bt=>MemAct.low_mono hB (h.seen op Bt)) fun op Bt=>?_⟩
 ·rcases h.known i a ha hc.2.1 with hk|⟨hsa,hka⟩
  ·exact hk
  ·obtain⟨e,he,rfl⟩:=mv Bt
   have hkb:=(Hf e he).1 b hb (hc.1▸hsa)
   obtain⟨_,_,_,hcase⟩:=hc
   rw [hka] at hcase
   rcases hcase with x|x|⟨_,x,_⟩
   ·cases x
   ·exact absurd x hkb
   ·cases x
 ·obtain⟨x,hx,hxa⟩:=touch_of ha
  rcases getElem?_append_cases hx with⟨_,hx'⟩|⟨_,hxu⟩
  ·exact(h.known i a (by rw [touchAt_of hx'];exact hxa) hm).imp (·.app _) id
  ·have:=knows_own hx
   rw [B6 hxu] at this
   exact af this
 ·obtain⟨e,he,rfl⟩:=mv Bt
  exact(Hf e he).2
theorem Iq.mute(h:Iq Shun B d t){g:Nat}(hg:g≠0){fn:du}{pos:String}{es:Array Event}(hm:∀e∈es,Event.mute e=s7):Iq Shun B d (t++MemOp.ofEvents g fn pos es):=by
 have hn:∀op∈MemOp.ofEvents g fn pos es,op.act.touch? = none:=fun op Bt=>by obtain⟨e,he,rfl⟩:=mv Bt;exact touch_mute (hm e he)
 refine⟨fun said=>noRace_append (h.clean said) (fun op Bt=>B6 Bt) fun i a _ op Bt b hb _=>(by rw [hn op Bt] at hb;cases hb),fun i a ha hm'=>?_,handedOver_app h.over fun op Bt=>o5 (hn op Bt),(x9 t hg _ fun op Bt=>B6 Bt).trans h.hears,seen_app h.seen fun op Bt=>by obtain⟨e,he,rfl⟩:=mv Bt;exact low_mute (hm e he) B⟩
 obtain⟨x,hx,hxa⟩:=touch_of ha
 rcases getElem?_append_cases hx with⟨_,hx'⟩|⟨_,hxu⟩
 ·exact(h.known i a (by rw [touchAt_of hx'];exact hxa) hm').imp (·.app _) id
 ·rw [hn x hxu] at hxa;cases hxa
end
def Ends(P:Program)(Post:tj->qq->Prop)(Shun:Loc->Prop)(d:Nat)(g:gq)(w:qq):Prop:=
 ∀(gs:Array gq) (sl:Option (Nat×Nat)) (t:bd) (q:Nat->Nat),gs[0]? = lp g->Leavers P t gs q->Iq Shun w.heap.size d t ->
  ∃N last o w' t',runNT P (N+1) (vx gs w sl) t=(.ended o w',t')/\runN P N (vx gs w sl)=.next last/\step P last=.ended o w'/\Good P Post last o w' t'
section
variable {P:Program} {Post:tj->qq->Prop} {Shun:Loc->Prop} {d:Nat} {g:gq} {w:qq}
theorem Mw{N:Nat}{m m':Machine}{t:bd}{u:Array MemOp}{o:Outcome}{w':qq}{t':bd}(hs:stepT P m=(.next m',u))(h:runNT P (N+1) m' (t++u)=(.ended o w',t')):runNT P (N+1+1) m t=(.ended o w',t'):=by
 rw [runNT_succ_next hs];exact h
theorem Ends.step(D1:g.status=.running)(h:∀n,∃g' w' es,stepG P s7 g (w.at n)=.go g' w' es/\w.heap.size<=w'.heap.size/\(∀e∈es,EvD Shun w'.heap.size e)/\Ends P Post Shun (l7 d es) g' w'):Ends P Post Shun d g w:=by
 suffices H:∀(M:Nat) (gs:Array gq) (w₁:qq) (sl:Option (Nat×Nat)) (t:bd) (q:Nat->Nat),(∃n,w₁=w.at n)->sumTo gs.size q<=M->gs[0]? = lp g->Leavers P t gs q->Iq Shun w.heap.size d t ->
   ∃N last o w' t',runNT P (N+1) (vx gs w₁ sl) t=(.ended o w',t')/\runN P N (vx gs w₁ sl)=.next last/\Go.step P last=.ended o w'/\Good P Post last o w' t' from
  fun gs sl t q h0 hL hP=>H _ gs w sl t q ⟨w.drawn,rfl⟩ (aA _) h0 hL hP
 intro M
 induction M using Nat.strongRecOn with
 | _ M ihM=>
 rintro gs w₁ sl t q ⟨n₁,rfl⟩ hM h0 hL hP
 have hlt0:0<gs.size:=(aF.1 h0).1
 have haw:∀x∈gs,awake x:=by
  exact Qcp
 obtain⟨i,x,n,sl',hi,hx,Dk⟩:=crowd_pick (P:=P) (w:=w.at n₁) (sl:=sl) haw ⟨0,g,h0,D1⟩
 have eat:(w.at n₁).at n=w.at n:=rfl
 rw [eat] at Dk
 rcases cX i with rfl|H9
 ·obtain rfl:x=g:=by rw [h0] at hi;exact(aC hi).symm
  obtain⟨g',w',es,hs,Di,Hf,hE⟩:=h n
  have hrunT:=runT_crowd_go (P:=P) (sl:=sl') (i:=0) hi (show stepG P (0 == 0) x (w.at n)=_ from hs)
  obtain⟨N,last,o,wf,tf,r1,r2,r3,r4⟩:=hE ((gs.map (woken P x g' w')).setIfInBounds 0 g') sl' (t++MemOp.ofEvents 0 x.frame.fn x.frame.place es) q (by simp [hlt0])
   ⟨fun j y hj hy=>by
    rw [aD Ab,bS] at hy
    obtain⟨z,hz,rfl⟩:=aJ.1 hy
    have hq:=hL.old j z hj hz
    rw [woken_quitsD hq,x9 t Ab _ (fun op Bt=>B6 Bt)]
    exact hq,fun j hj=>by
    rw [x9 t (g':=0) (by simp at hj;omega) _ (fun op Bt=>B6 Bt)]
    exact hL.above j (by simpa using hj)⟩
   (hP.own Di Hf)
  have Co:=Dk.trans hrunT
  exact⟨N+1,last,o,wf,tf,Mw Co r1,by rw [runN_succ_next Co];exact r2,r3,r4⟩
 ·exact Mfz
theorem Ends.ret(D1:g.status=.running)(h:∀n,∃v es,stepG P s7 g (w.at n)=.ended (.done v) (w.at n) es/\(∀e∈es,EvL Shun w.heap.size e)/\Post v (w.at n)):Ends P Post Shun 0 g w:=by
 intro gs sl t q h0 hL hP
 refine beside_ends (P:=P) (Shun:=Shun) (B:=w.heap.size) (D:=fun _ _ _=>False) (Post:=Post) (n:=0) (fun _ _ _ x=>x.elim) h0 hL hP.to fun w₁ h₁=>?_
 obtain⟨n,rfl⟩:=h₁
 obtain⟨v,es,h1,h2,h3⟩:=h n
 exact⟨D1,v,es,h1,h2,h3⟩
theorem Ends.goes{D:qq->qq->Array Event->Prop}{Stop:gq->qq->Prop}(hD:∀w w' es,D w w' es->w.heap.size<=w'.heap.size/\∀e∈es,EvL Shun w'.heap.size e)(hS:∀g w,Stop g w->Ends P Post Shun d g w) :
  ∀{n:Nat} {g:gq} {w:qq},Goes P s7 AtRel D Stop n g w->Ends P Post Shun d g w
 | 0,g,w,h=>hS g w (h w (atRel_refl w))
 | n+1,g,w,h=>by
  rcases h with h|⟨hs,h⟩
  ·exact hS g w (h w (atRel_refl w))
  ·refine Ends.step hs fun k=>?_
   have:=h (w.at k) ⟨k,rfl⟩
   obtain⟨g',w',es,e,hd,hg⟩:=goes_elim this
   obtain⟨h1,h2⟩:=hD _ _ _ hd
   refine⟨g',w',es,e,h1,fun e he=>⟨(h2 e he).1,(h2 e he).2.2.2⟩,?_⟩
   rw [deafBehind_still fun e he=>⟨(h2 e he).2.1,(h2 e he).2.2.1⟩]
   exact Ends.goes hD hS hg
end
open Go.ConcN (sumTo upd sumTo_upd upd_ne upd_same)
section
variable {P:Program} {Post:tj->qq->Prop} {Shun:Loc->Prop} {d:Nat} {g:gq} {w:qq}
theorem GH{C:Pu}{t:bd}(hk:0<C.k)(hP:Past C.Shun w.heap.size t)(hd:Deaf t C.k=0)(fn fn':du)(pos pos':String) :
  C.TI (t++#[({ g:=0,fn:=fn,pos:=pos,act:=.go C.k }:MemOp),{ g:=C.k,fn:=fn',pos:=pos',act:=.start }]) w 0 0:=by
 have hn:∀op∈(#[({ g:=0,fn:=fn,pos:=pos,act:=.go C.k }:MemOp),{ g:=C.k,fn:=fn',pos:=pos',act:=.start }]:bd),op.act.touch? = none/\(∀m,op.act≠.mark m)/\op.act.low w.heap.size:=fun op Bt=>by
  simp at Bt
  rcases Bt with rfl|rfl <;> exact⟨rfl,Ae,trivial⟩
 have hd0:=v8 t 0 _ fun op Bt=>⟨(hn op Bt).2.1 .disable,(hn op Bt).2.1 .enable⟩
 have hdk:=v8 t C.k _ fun op Bt=>⟨(hn op Bt).2.1 .disable,(hn op Bt).2.1 .enable⟩
 have h0:(t++#[({ g:=0,fn:=fn,pos:=pos,act:=.go C.k }:MemOp),{ g:=C.k,fn:=fn',pos:=pos',act:=.start }])[t.size]? = lp { g:=0,fn:=fn,pos:=pos,act:=.go C.k }:=Ae
 have h1:(t++#[({ g:=0,fn:=fn,pos:=pos,act:=.go C.k }:MemOp),{ g:=C.k,fn:=fn',pos:=pos',act:=.start }])[t.size+1]? = lp { g:=C.k,fn:=fn',pos:=pos',act:=.start }:=by
  rw [cL Ab];simp
 have old:∀i a,touchAt (t++#[({ g:=0,fn:=fn,pos:=pos,act:=.go C.k }:MemOp),{ g:=C.k,fn:=fn',pos:=pos',act:=.start }]) i=lp a->touchAt t i=lp a:=fun i a ha=>by
  obtain⟨x,hx,hxa⟩:=touch_of ha
  rcases getElem?_append_cases hx with⟨_,hx'⟩|⟨_,hxu⟩
  ·rw [touchAt_of hx'];exact hxa
  ·rw [(hn x hxu).1] at hxa;cases hxa
 have hspawn:HappensBefore (t++#[({ g:=0,fn:=fn,pos:=pos,act:=.go C.k }:MemOp),{ g:=C.k,fn:=fn',pos:=pos',act:=.start }]) t.size (t.size+1):=by
  refine .single (o5 ⟨.spawn (child:=C.k) (by rw [act?_of h0]) (by rw [act?_of h1]) (by simp only [Trace.g?,h1,bA]),⟨0,by simp only [Trace.g?,h0,bA],by rw [deaf_old (aA _)];exact hP.hears⟩,⟨C.k,by simp only [Trace.g?,h1,bA],?_⟩⟩)
  rw [deaf_succ h0,deaf_old (aA _)]
  show deafStep C.k (Deaf t C.k) _=0
  rw [hd]
  rfl
 refine⟨fun said=>?_,fun i a ha hm=>?_,fun i a ha hm=>?_,Np (fun i g hg Cu _ hc=>hP.over i g hg Cu hc) fun op Bt=>o5 (o5 (hn op Bt).1),hd0.trans hP.hears,hdk.trans hd,seen_app hP.seen fun op Bt=>(hn op Bt).2.2⟩
 ·rintro⟨i,j,hij,⟨a,b,ha,hb,hc⟩,n1,n2⟩
  exact hP.clean said ⟨i,j,hij,⟨a,b,old i a ha,old j b hb,hc⟩,fun e=>n1 (hb_app _ e),fun e=>n2 (hb_app _ e)⟩
 ·rcases hP.known i a (old i a ha) hm with h|h
  ·exact af (h.app _)
  ·exact o5 (af h)
 ·rcases hP.known i a (old i a ha) hm with h|h
  ·exact af ⟨t.size+1,_,h1,rfl,o5 ((h.hb_new (aA _) h0 rfl).trans hspawn)⟩
  ·exact o5 (af h)
theorem Ends.forkW(D1:g.status=.running)(h:∀n k,0<k->∃(C:Pu) (bs:List C.β) (a' child:gq) (s r:Nat) (tm:Bool),C.P=P/\C.k=k/\C.Shun=Shun/\C.Ok/\stepG P s7 g (w.at n)=.spawn a' child (w.at n) #[] /\
   w.heap[C.Ch]? = lp (.chan 0 #[] vp s r tm)/\D3 C.ty C.Wg w KK 0/\Qq C bs [] a' (w.at n)/\O9 C bs [] child (w.at n) /\
   ∀sent g' w',sent.map (·.1)=bs->g'.status=.running->C.PostA sent g' w'->C.FB sent w'->(∀x∈sent,C.Msg x.1 x.2 w')->Wy C.ty C.Wg C.Ch w'->Ends P Post (fun l=>Shun l∨Hy C.Wg l) 0 g' w'):Ends P Post Shun 0 g w:=by
 suffices H:∀(M:Nat) (gs:Array gq) (w₁:qq) (sl:Option (Nat×Nat)) (t:bd) (q:Nat->Nat),(∃n,w₁=w.at n)->sumTo gs.size q<=M->gs[0]? = lp g->Leavers P t gs q->Iq Shun w.heap.size 0 t ->
   ∃N last o w' t',runNT P (N+1) (vx gs w₁ sl) t=(.ended o w',t')/\runN P N (vx gs w₁ sl)=.next last/\Go.step P last=.ended o w'/\Good P Post last o w' t' from
  fun gs sl t q h0 hL hP=>H _ gs w sl t q ⟨w.drawn,rfl⟩ (aA _) h0 hL hP
 intro M
 induction M using Nat.strongRecOn with
 | _ M ihM=>
 rintro gs w₁ sl t q ⟨n₁,rfl⟩ hM h0 hL hP
 have hlt0:0<gs.size:=(aF.1 h0).1
 have haw:∀x∈gs,awake x:=by
  exact Qcp
 obtain⟨i,x,n,sl',hi,hx,Dk⟩:=crowd_pick (P:=P) (w:=w.at n₁) (sl:=sl) haw ⟨0,g,h0,D1⟩
 have eat:(w.at n₁).at n=w.at n:=rfl
 rw [eat] at Dk
 rcases cX i with rfl|H9
 ·obtain rfl:x=g:=by rw [h0] at hi;exact(aC hi).symm
  obtain⟨C,bs,a',child,s,r,tm,hCP,hCk,hCS,O,hs,hch,Hh,hA,hB,hpost⟩:=h n gs.size hlt0
  subst hCP hCS
  refine Hqw ?_;intro hrunT hops
  rw [hops] at hrunT
  have Co:=Dk.trans hrunT
  have Hp:=GH (C:=C) (w:=w.at n) (t:=t) O.hk hP.to (hL.above C.k Ab) x.frame.fn child.frame.fn x.frame.place x.frame.place
  obtain⟨nA,hA⟩:=(Tf C _ _ _ _).1 hA
  obtain⟨nB,hB⟩:=(Tj C _ _ _ _).1 hB
  have hn:∀op∈(#[({ g:=0,fn:=x.frame.fn,pos:=x.frame.place,act:=.go C.k }:MemOp),{ g:=C.k,fn:=child.frame.fn,pos:=x.frame.place,act:=.start }]:bd),op.act≠.mark .disable/\op.act≠.mark .enable:=fun op Bt=>by
   simp at Bt
   rcases Bt with rfl|rfl <;> simp
  refine F1f ?_;intro hkb
  obtain⟨N,gs',a'',w',sl'',t',q',hr,hz,x0,xrun,⟨sent,xs,xpost,xfb,xmsg,xE⟩,xL,xP⟩:=JG (C:=C) (bs0:=bs) (a:=a') (b:=child) (w:=w.at n) (sl:=sl') (q:=q) O
   (gs:=(gs.setIfInBounds 0 a').push child) (t:=t++#[({ g:=0,fn:=x.frame.fn,pos:=x.frame.place,act:=.go C.k }:MemOp),{ g:=C.k,fn:=child.frame.fn,pos:=x.frame.place,act:=.start }])
   (by rw [cP (by simpa using hlt0)];simp [hlt0]) hkb
   ⟨fun j y hj hjk hy=>by
    have Cg:j<gs.size:=by
     have:=(aF.1 hy).1
     simp at this
     omega
    rw [cP (by simpa using Cg)] at hy
    rw [v8 t j _ hn]
    refine hL.old j y hj ?_
    have e:(gs.setIfInBounds 0 a')[j]? = lp y:=by
     rw [aZ (by simpa using Cg)];exact hy
    rwa [aD Ab] at e,
    fun j hj=>by
    rw [v8 t j _ hn]
    refine hL.above j ?_
    simp at hj
    omega⟩
   (μ:=(bs.length+40,(nA+1)+2 * (nB+1)))
   (o5 (o5 ⟨bs,[],nA+1,nB+1,rfl,Ae,⟨s,r,tm,hch⟩,Hh,Hp,af ⟨nA,rfl,hA⟩,af ⟨nB,rfl,hB⟩,Ab,Ae⟩))
  obtain⟨N2,last,o,wf,tf,r1,r2,r3,r4⟩:=hpost sent a'' w' xs xrun xpost xfb xmsg xE gs' sl'' t' q' x0 xL (.of xP)
  exact Mr8
 ·exact Mfz
end
end Go.Pair

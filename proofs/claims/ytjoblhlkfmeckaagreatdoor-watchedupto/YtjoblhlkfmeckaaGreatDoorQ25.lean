import Derived.Test.YtjoblhlkfmeckaaGreatDoorQ24
import Derived.Test.YtjoblhlkfmeckaaGreatDoorQ07
import Derived.Test.YtjoblhlkfmeckaaGreatDoorQ17
set_option maxHeartbeats 1000000
set_option maxRecDepth 8000
set_option linter.unusedVariables false
set_option linter.unusedSimpArgs false
open Option renaming some → lp,none → od
open Go.Proofs.Tryz renaming prog → ly
open Bool renaming false → vp,true → s7
open Go renaming World → qq,Value → tj,TypeId → s8,Oper → gz,FuncId → du,yielded → iw,undef → yj,wanted_put → zk
open Go.Value renaming ownBlock → qb,int → rl,pointer → om,slice → cf,bool → gf,tuple → fh
open Array renaming replicate → yl
open Go.Obj.cells renaming injEq → qi
open Go.Instr renaming lookup → ry
open Go.Obj renaming cells → ye
open Go.IntKind renaming i64 → tz
open Go.Ending renaming returned → pd
open Or renaming inr → o5
open Go.Proofs.Tryz Orch
theorem Au7{p:Prop}(h:p:=by
 subst h1
 refine⟨rfl,Ks hn hv hk hs hX,hk.nf hn,fun l hl=>?_,v',hs,hR⟩
 obtain⟨a,rfl,o,h5,h6⟩:=hS l hl
 exact⟨a,rfl,o,(hk.keep _ ⟨a,hl,rfl⟩).trans h5,h6⟩):p:=h
theorem Az0{p q:Prop}(k:q)(h:Hd q->p:=by
 intro kz
 refine Cy (t:=true) Ac ?_;simp only [bC,bQ,aV]
 exact kz.1):p:=h ⟨k⟩
theorem Wit{p q:Prop}(k:q)(h:Hd q->p:=by
 intro kz
 refine Eh ?_;simp only [Cn,Be]
 exact kz.1):p:=h ⟨k⟩
theorem Bhr{p q:Prop}(k:q)(h:Hd q->p:=by
 intro kz
 refine Cy (t:=false) Ac ?_;simp only [bC,bQ,aV]
 exact kz.1):p:=h ⟨k⟩
theorem Dc8{p q:Prop}(k:q)(h:Hd q->p:=by
 intro kz
 refine Ba ?_;simp only [Cn,Be]
 exact kz.1):p:=h ⟨k⟩
theorem Al{p q:Prop}(k:q)(h:Hd q->p:=by
 intro kz
 refine Aq ?_;walk_nrm
 exact kz.1):p:=h ⟨k⟩
theorem B77{p q:Prop}(k:q)(h:Hd q->p:=by
 intro kz
 iterate 2(refine A9 ?_)
 exact kz.1):p:=h ⟨k⟩
theorem Ctl{p q:Prop}(k:q)(h:Hd q->p:=by
 intro kz
 refine Dc8 ?_
 refine Bhr ?_
 refine Wit ?_
 exact kz.1):p:=h ⟨k⟩
theorem G08{p q:Prop}(k:q)(h:Hd q->p:=by
 intro kz
 iterate 2(refine A9 ?_)
 refine Bu ?_
 exact kz.1):p:=h ⟨k⟩
theorem L4k{p q:Prop}(k:q)(h:Hd q->p:=by
 intro kz
 iterate 2(refine Al ?_)
 exact kz.1):p:=h ⟨k⟩
theorem Ecj{p q:Prop}(k:q)(h:Hd q->p:=by
 intro kz
 refine Al ?_
 refine Dc8 ?_
 exact kz.1):p:=h ⟨k⟩
theorem U2i{p q:Prop}(k:q)(h:Hd q->p:=by
 intro kz
 refine Bu ?_
 iterate 2(refine Al ?_)
 exact kz.1):p:=h ⟨k⟩
theorem Qxj{p q:Prop}(k:q)(h:Hd q->p:=by
 intro kz
 refine Bu ?_
 refine Al ?_
 exact kz.1):p:=h ⟨k⟩
theorem Qvz{p q:Prop}(k:q)(h:Hd q->p:=by
 intro kz
 refine A9 ?_
 refine Bu ?_
 exact kz.1):p:=h ⟨k⟩
namespace Go.Proofs.YtjoblhlkfmeckaaGreatDoor
open Go Go.Conc Go.Pair
theorem Cq.stay{Bs:Nat->Prop}{w w' v v':qq}(hk:Kept Bs w w')(h:Cq Bs w v)(h':Cq Bs w' v'){i:Nat}(e:v'.heap[i]? = v.heap[i]?):w'.heap[i]? = w.heap[i]?:=by
 rcases h'.like i with⟨hn,e1,H0⟩|⟨hb,c,t,fz,hw,hv⟩|⟨hn,⟨o,ho,hno⟩,hv⟩|⟨hb,_⟩
 ·rcases h.like i with⟨_,e2,_⟩|⟨hb,_⟩|⟨_,⟨o,ho,hno⟩,hv⟩|⟨hb,_⟩
  ·rw [←e1,e,e2]
  ·exact absurd hb hn
  ·have hd:w'.heap[i]? = lp dead:=by rw [←e1,e,hv]
   exact absurd (H0 dead hd) (fun h=>h)
  ·exact absurd hb hn
 ·exact hk.keep i hb
 ·rw [ho]
  exact(hk.far i o ho hno).symm
 ·exact hk.keep i hb
theorem Cq.atOf{Bs:Nat->Prop}{w w' v v':qq}(hk:Kept Bs w w')(h:Cq Bs w v)(h':Cq Bs w' v')(e:v'.heap=v.heap):∃d,w'=w.at d:=by
 have hh:w'.heap=w.heap:=cY fun i=>Cq.stay hk h h' (by rw [e])
 have h1:=hk.same.1
 have h2:=hk.same.2
 have h3:=hk.tape
 refine⟨w'.drawn,?_⟩
 cases w
 cases w'
 simp only at hh h1 h2 h3
 subst hh h1 h2 h3
 rfl
section
variable {Post:Da} {fn:du} {Q:Exit->Act->qq->(Loc->Prop)->Prop} {a:Act} {w:qq} {Shun:Loc->Prop}
theorem Dr{ops:Array gz}{i:Nat}{l:List Nat}{o:gz}{x:tj}(ho:ops[i]? = lp o)(hw:Region.wanted o (iw ops a.tmps)=s7)(hr:∀w,(execOp a.eval o).run ly w=.ok (.value x) w)(he:∀w,(execOp a.eval o).events ly w #[]=#[])(h:Gx ly Post fn ops l Q (a.put o.dst x) w Shun):Gx ly Post fn ops (i :: l) Q a w Shun:=by
 intro W e hF b k z hb hk hc
 have hke:b.kind≠.early:=by rw [hk];decide
 refine EA.ctl rfl (fun w=>?_) (h W e hF b k z hb hk hc)
 exact O7p
theorem F0{ops:Array gz}{i:Nat}{l:List Nat}{o:gz}{x:tj}(ho:ops[i]? = lp o)(hw:Region.wanted o (iw ops a.tmps)=s7)(E6:Oq ly (Lv.contains ·) DC fn o=s7)(hS:Bf Shun w)(H:∀v,Cq (F6 Shun) w v->(execOp a.eval o).run ly v=.ok (.value x) v)(h:Gx ly Post fn ops l Q (a.put o.dst x) w Shun):Gx ly Post fn ops (i :: l) Q a w Shun:=
 Xu (S:=env Lv) ho hw (Dp E6) (Bg _ _) (fun a h=>⟨a,h,rfl⟩) hS.obj hS.cells (R:=fun y v'=>y=x/\Cq (F6 Shun) w v') (fun v hv=>⟨x,v,.inl (H v hv),rfl,hv⟩) fun y w' v' hk hs ⟨e,hv⟩=>by
  subst e
  obtain⟨d,rfl⟩:=Cq.atOf hk hv hs rfl
  exact FU h d
theorem OG{f:du}(hf:f∈Lv)(hS:Bf Shun w){args:Array tj}{R:tj->qq->Prop}(H:∀v,Cq (F6 Shun) w v->Calls ly f args v fun e v'=>∃x,e=pd x/\R x v') :
  De ly Post f args Shun w fun val w' Sh=>Sh=Shun/\Kept (F6 Shun) w w'/\∃v',Cq (F6 Shun) w' v'/\R val v':=
 Rp fun P' W e=>by
  have h:=YH (Post:=P') (w:=W) hf (Jv.1 (e▸hS)) (args:=args) (R:=fun e v'=>∃x,e=pd x/\R x v') (fun c v ⟨_,h,_⟩=>by cases h) (fun v ⟨_,h,_⟩=>by cases h) (fun v hv=>H v (e▸Mb hv))
  obtain⟨fc,c,h1,h2,h3,h4⟩:=h
  refine⟨fc,c,h1,h2,h3,fun fr cs hn=>h4 fr cs ?_⟩
  rintro val w' Sh ⟨rfl,hk,v',hs,x,e,hR⟩
  cases e
  exact hn _ _ _ ⟨rfl,hk,v',hs,hR⟩
theorem Tm{f:du}(hf:f∈Lv)(hS:Bf Shun w){args:Array tj}{x:tj}(H:∀v,Cq (F6 Shun) w v->Calls ly f args v fun e v'=>e=pd x/\v'=v) :
  De ly Post f args Shun w fun val w' Sh=>Sh=Shun/\val=x/\∃d,w'=w.at d:=
 D6 (OG hf hS (R:=fun y v'=>y=x/\Cq (F6 Shun) w v') (fun v hv=>(H v hv).mono fun e v' h=>⟨x,h.1,rfl,h.2▸hv⟩)) fun val w' Sh ⟨h1,hk,v',hs,e,hv⟩=>⟨h1,e,Cq.atOf hk hv hs rfl⟩
theorem Eo{ops:Array gz}{i:Nat}{l:List Nat}{o:gz}{f:du}{args:Array Operand}{ats:Array s8}{x:tj}(ho:ops[i]? = lp o)(hw:Region.wanted o (iw ops a.tmps)=s7)(Bt:o.op=.call { callee:=.value (.func f),args,argTypes:=ats })(hf:f∈Lv)(hS:Bf Shun w)(H:∀v,Cq (F6 Shun) w v->Calls ly f (args.map a.eval) v fun e v'=>e=pd x/\v'=v)(h:Gx ly Post fn ops l Q (a.put o.dst x) w Shun):Gx ly Post fn ops (i :: l) Q a w Shun:=
 Cc ho hw Bt (Tm hf hS H) fun v w' S ⟨e1,e2,d,e3⟩=>by
  subst e1 e2 e3
  exact FU h d
theorem Tk{f:du}(hf:f∈Lv)(hS:Bf Shun w)(hn:NF w){X:Nat->Prop}{args:Array tj}{R:tj->qq->Prop}(H:∀v,Cq (F6 Shun) w v->Calls ly f args v fun e v'=>(∃x,e=pd x/\R x v')/\Ar v v' X) :
  De ly Post f args Shun w fun x w' Sh=>Sh=Shun/\Ar w w' X/\NF w'/\Bf Shun w'/\∃v',Cq (F6 Shun) w' v'/\R x v':=
 D6 (OG hf hS (R:=fun x v'=>∃v,Cq (F6 Shun) w v/\R x v'/\Ar v v' X) (fun v hv=>(H v hv).mono fun e v' ⟨⟨x,h1,h2⟩,h3⟩=>⟨x,h1,v,hv,h2,h3⟩)) fun val w' Sh ⟨h1,hk,v',hs,v,hv,hR,hX⟩=>by
  exact Au7
end
section
variable {Post:Da} {fn:du} {ops:Array gz} {Q:Exit->Act->qq->(Loc->Prop)->Prop} {a:Act} {w:qq} {Shun:Loc->Prop}
inductive Yg(Post:Da)(fn:du)(ops:Array gz)(i:Nat)(K:Act->qq->(Loc->Prop)->Prop)(a:Act)(w:qq)(Shun:Loc->Prop):Prop
 | unwanted (o:gz) (ho:ops[i]? = lp o) (hw:Region.wanted o (iw ops a.tmps)=vp) (h:K (a.put o.dst yj) w Shun)
 | op (o:gz) (R:tj->qq->Prop) (ho:ops[i]? = lp o) (hw:Region.wanted o (iw ops a.tmps)=s7) (E6:Oq ly (Lv.contains ·) DC fn o=s7) (hS:Bf Shun w)
   (H:∀v,Cq (F6 Shun) w v->∃x v',((execOp a.eval o).run ly v=.ok (.value x) v'∨((execOp a.eval o).run ly v=.ok .skip v'/\x=yj))/\R x v')
   (h:∀x w' v',Kept (F6 Shun) w w'->Cq (F6 Shun) w' v'->R x v'->K (a.put o.dst x) w' Shun)
 | call (o:gz) (f:du) (args:Array Operand) (ats:Array s8) (Cd:tj->qq->(Loc->Prop)->Prop) (ho:ops[i]? = lp o) (hw:Region.wanted o (iw ops a.tmps)=s7) (Bt:o.op=.call { callee:=.value (.func f),args:=args,argTypes:=ats })
   (hc:De ly Post f (args.map a.eval) Shun w Cd) (h:∀x w' S,Cd x w' S->K (a.put o.dst x) w' S)
theorem Yg.mono{i:Nat}{K K':Act->qq->(Loc->Prop)->Prop}(hK:∀a w S,K a w S->K' a w S)(h:Yg Post fn ops i K a w Shun):Yg Post fn ops i K' a w Shun:=by
 cases h with
 | unwanted o ho hw h=>exact .unwanted o ho hw (hK _ _ _ h)
 | op o R ho hw E6 hS H h=>exact .op o R ho hw E6 hS H fun x w' v' h1 h2 h3=>hK _ _ _ (h x w' v' h1 h2 h3)
 | call o f args ats Cd ho hw Bt hc h=>exact .call o f args ats Cd ho hw Bt hc fun x w' S p=>hK _ _ _ (h x w' S p)
theorem Yg.goesOn{i:Nat}{l:List Nat}(h:Yg Post fn ops i (fun a' w' S=>Gx ly Post fn ops l Q a' w' S) a w Shun):Gx ly Post fn ops (i :: l) Q a w Shun:=by
 cases h with
 | unwanted o ho hw h=>exact Dd ho hw h
 | op o R ho hw E6 hS H h=>exact Xu (S:=env Lv) ho hw (Dp E6) (Bg _ _) (fun a h=>⟨a,h,rfl⟩) hS.obj hS.cells H h
 | call o f args ats Cd ho hw Bt hc h=>exact Cc ho hw Bt hc h
def B5(Post:Da)(fn:du)(ops:Array gz)(Q:Exit->Act->qq->(Loc->Prop)->Prop)(I:qq->(Loc->Prop)->Prop):Nat->Array Bool->Act->qq->(Loc->Prop)->Prop
 | 0,done,a,w,S=>Region.ready .any ops done = []/\Q .normal a w S
 | fuel+1,done,a,w,S=>(Region.ready .any ops done = []->Q .normal a w S)/\∀i∈Region.ready .any ops done,Yg Post fn ops i (fun a' w' S'=>I w' S'/\B5 Post fn ops Q I fuel (done.setIfInBounds i s7) a' w' S') a w S
theorem B5.sound{I:qq->(Loc->Prop)->Prop}:∀(fuel t:Nat) (done:Array Bool) (a:Act) (w:qq) (S:Loc->Prop),B5 Post fn ops Q I fuel done a w S->Gx ly Post fn ops (Region.linearise.go .any ops fuel t done []) Q a w S:=by
 intro fuel
 induction fuel with
 | zero=>intro t done a w S h;simpa [Region.linearise.go] using Ba h.2
 | succ fuel ih=>
  intro t done a w S h
  obtain⟨h₀,h₁⟩:=h
  simp only [Region.linearise.go]
  change Gx ly Post fn ops (match (Region.ready .any ops done)[t % (Region.ready .any ops done).length]? with
   | some i=>Region.linearise.go .any ops fuel (t / (Region.ready .any ops done).length) (done.setIfInBounds i s7) [i]
   | none=>[].reverse) Q a w S
  cases hi:(Region.ready .any ops done)[t % (Region.ready .any ops done).length]? with
  | none=>
   have hnil:Region.ready .any ops done = []:=by
    cases hr:Region.ready .any ops done with
    | nil=>rfl
    | cons x xs=>
     exact Kqt
   simpa using Ba (h₀ hnil)
  | some i=>
   simp only []
   rw [linearise_go_acc,List.reverse_singleton,List.singleton_append]
   exact Yg.goesOn ((h₁ i (cD hi)).mono fun a' w' S' x=>ih _ _ a' w' S' x.2)
theorem N4{id:Nat}{I:qq->(Loc->Prop)->Prop}(h:∀d,B5 Post fn ops Q I ops.size (yl ops.size vp) a (w.at d) Shun):Jq ly Post fn (.region id ops s7) Q a w Shun:=by
 intro W e hF b k z hb hk hc
 refine EA.goes (n:=1) (Goes.step rfl fun w₁ r=>?_)
 obtain⟨d,rfl⟩:=r
 have hm:prog.follows .mixedOrders=s7:=Ac
 have Dk:stepG ly s7 (G (b.at a (.code (.region id ops s7) :: k)) z) (W.at d)=.go (G (b.at a (.inRegion ops (Region.schedule (prog.follows .mixedOrders) ops ((W.at d).tape d (.order b.fn id))) :: k)) z) ((W.at d).at (d+1)) #[]:=by
  simp [G,stepG,stepG.exec,Frame.at,Question.forced,Question.cut]
  exact⟨rfl,rfl⟩
 rw [Dk,goes_go]
 refine⟨⟨aA _,Ae,Ed.refl _⟩,EA.stop ?_⟩
 simp only [Region.schedule,hm,Bool.true_or,bC]
 exact B5.sound ops.size _ _ a _ Shun (h (d+1)) (W.at (d+1)) (by rw [Pz,←e]) hF b k z hb hk hc
def YE(ops:Array gz)(I:qq->(Loc->Prop)->Prop)(oi:gz)(x:tj)(a:Act):Prop:=
 (Region.wanted oi (iw ops a.tmps)=vp->x=yj)/\(Region.wanted oi (iw ops a.tmps)=s7->∀w S,I w S->∀v,Cq (F6 S) w v->(execOp a.eval oi).run ly v=.ok (.value x) v)
variable {I:qq->(Loc->Prop)->Prop}
theorem Yg.at{i:Nat}{K:Act->qq->(Loc->Prop)->Prop}(hK:∀a w S d,K a w S->K a (w.at d) S)(h:Yg Post fn ops i K a w Shun)(d:Nat):Yg Post fn ops i K a (w.at d) Shun:=by
 cases h with
 | unwanted o ho hw h=>exact .unwanted o ho hw (hK _ _ _ d h)
 | op o R ho hw E6 hS H h=>exact .op o R ho hw E6 hS (fun v hv=>H v ⟨hv.size,hv.like,hv.os,hv.output⟩) fun x w' v' h1 h2 h3=>h x w' v' ⟨h1.grow,h1.keep,h1.same,h1.tape,h1.far⟩ h2 h3
 | call o f args ats Cd ho hw Bt hc h=>
  exact .call o f args ats Cd ho hw Bt (GS hc d) h
theorem B5.at(hI:∀w S d,I w S->I (w.at d) S)(hQ:∀a w S d,Q .normal a w S->Q .normal a (w.at d) S):∀(fuel:Nat) (done:Array Bool) (a:Act) (w:qq) (S:Loc->Prop) (d:Nat),B5 Post fn ops Q I fuel done a w S->B5 Post fn ops Q I fuel done a (w.at d) S
 | 0,_,_,_,_,d,h=>⟨h.1,hQ _ _ _ d h.2⟩
 | fuel+1,_,_,_,_,d,h=>⟨fun e=>hQ _ _ _ d (h.1 e),fun i hi=>(h.2 i hi).at (fun a w S d k=>⟨hI _ _ d k.1,B5.at hI hQ fuel _ a w S d k.2⟩) d⟩
theorem YE.opE{i:Nat}{oi:gz}{x:tj}{K:Act->qq->(Loc->Prop)->Prop}(hI:∀w S d,I w S->I (w.at d) S)(E4:∀w S,I w S->Bf S w)(hK:∀a w S d,K a w S->K a (w.at d) S)(hi:ops[i]? = lp oi)(E6:Oq ly (Lv.contains ·) DC fn oi=s7)(hy:YE ops I oi x a)(hw:I w Shun)(h:K (a.put oi.dst x) w Shun):Yg Post fn ops i K a w Shun:=by
 cases hwt:Region.wanted oi (iw ops a.tmps) with
 | false=>exact .unwanted oi hi hwt (by rw [hy.1 hwt] at h;exact h)
 | true=>
  refine .op oi (fun y v'=>y=x/\Cq (F6 Shun) w v') hi hwt E6 (E4 _ _ hw) (fun v hv=>⟨x,v,.inl (hy.2 hwt _ _ hw v hv),rfl,hv⟩) fun y w' v' hk hs ⟨e,hv⟩=>?_
  subst e
  obtain⟨d,rfl⟩:=Cq.atOf hk hv hs rfl
  exact hK _ _ _ d h
theorem Yg.putIf{j:Nat}{oi oj:gz}{x:tj}(hj:ops[j]? = lp oj)(hap:oi.apart ops oj=s7)(hsi:∀cs b,oi.op≠.select cs b)(hsj:∀cs b,oj.op≠.select cs b){K:Act->qq->(Loc->Prop)->Prop}(hy:YE ops I oi x a)(h:Yg Post fn ops j K (a.put oi.dst x) w Shun):Yg Post fn ops j (fun a' w' S=>YE ops I oi x a'/\K (a'.put oi.dst x) w' S) a w Shun:=by
 obtain⟨g1,g2,g3⟩:=Oper.apart_spec hap
 have hsame:∀y,YE ops I oi x (a.put oj.dst y):=fun y=>by
  refine⟨fun e=>hy.1 (by rwa [zk oi a oj.dst y g3] at e),fun e w S hw v hv=>?_⟩
  rw [execOp_put oi hsi a oj.dst y g3]
  exact hy.2 (by rwa [zk oi a oj.dst y g3] at e) w S hw v hv
 cases h with
 | unwanted o ho hw h=>
  exact T8r
 | op o R ho hw E6 hS H h=>
  obtain rfl:oj=o:=aC (hj.symm.trans ho)
  rw [zk oj a oi.dst x g1] at hw
  rw [execOp_put oj hsj a oi.dst x g1] at H
  exact .op oj R ho hw E6 hS H fun y w' v' h1 h2 h3=>⟨hsame _,by rw [←Act.put_comm a x y g2];exact h y w' v' h1 h2 h3⟩
 | call o f args ats Cd ho hw Bt hc h=>
  obtain rfl:oj=o:=aC (hj.symm.trans ho)
  rw [zk oj a oi.dst x g1] at hw
  rw [Oz Bt g1] at hc
  exact .call oj f args ats Cd ho hw Bt hc fun y w' S p=>⟨hsame _,by rw [←Act.put_comm a x y g2];exact h y w' S p⟩
theorem B5.first(hI:∀w S d,I w S->I (w.at d) S)(E4:∀w S,I w S->Bf S w)(hQ:∀a w S d,Q .normal a w S->Q .normal a (w.at d) S){i:Nat}{oi:gz}{x:tj}(hi:ops[i]? = lp oi)(E6:Oq ly (Lv.contains ·) DC fn oi=s7)(hsel:∀(j:Nat) (o:gz) cs b,ops[j]? = lp o->o.op≠.select cs b) :
  ∀(fuel:Nat) (done:Array Bool) (a:Act) (w:qq) (S:Loc->Prop),
   (∀j oj,ops[j]? = lp oj->j≠i->done.getD j s7=vp->(∀e∈oj.after,Region.binds .any e=s7->e.on≠i)->oi.apart ops oj=s7) ->
   i∈Region.ready .any ops done->YE ops I oi x a->I w S->B5 Post fn ops Q I fuel (done.setIfInBounds i s7) (a.put oi.dst x) w S->B5 Post fn ops Q I (fuel+1) done a w S:=by
 have hK:∀fuel done,∀a w S d,(I w S/\B5 Post fn ops Q I fuel done a w S)->(I (w.at d) S/\B5 Post fn ops Q I fuel done a (w.at d) S):=fun fuel done a w S d h=>⟨hI _ _ d h.1,B5.at hI hQ fuel done a w S d h.2⟩
 intro fuel
 induction fuel with
 | zero=>
  intro done a w S _ hr hy hS H
  refine⟨fun h=>(by rw [h] at hr;cases hr),fun j hj=>?_⟩
  by_cases hji:j=i
  ·subst hji;exact hy.opE hI E4 (hK _ _) hi E6 hS ⟨hS,H⟩
  ·have:=ready_mono hj hji
   rw [H.1] at this
   cases this
 | succ fuel ih=>
  intro done a w S hfree hr hy hS H
  refine⟨fun h=>(by rw [h] at hr;cases hr),fun j hj=>?_⟩
  by_cases hji:j=i
  ·subst hji;exact hy.opE hI E4 (hK _ _) hi E6 hS ⟨hS,H⟩
  ·have h1:=H.2 j (ready_mono hj hji)
   obtain⟨hjun,oj,hoj,D9⟩:=mem_ready.1 hj
   have hnot:∀e∈oj.after,Region.binds .any e=s7->e.on≠i:=fun e he hb heq=>by
    exact X5o
   have h2:=Yg.putIf hoj (hfree j oj hoj hji hjun hnot) (fun cs b=>hsel i oi cs b hi) (fun cs b=>hsel j oj cs b hoj) hy h1
   refine h2.mono fun a' w' S' h3=>⟨h3.2.1,ih (done.setIfInBounds j s7) a' w' S' (fun k ok hk hki hun hno=>hfree k ok hk hki ?_ hno) (ready_mono hr (bW hji)) h3.1 h3.2.1 ?_⟩
   ·exact V5z
   ·rw [Array.setIfInBounds_comm _ _ hji]
    exact h3.2.2
theorem B5.take(hI:∀w S d,I w S->I (w.at d) S)(E4:∀w S,I w S->Bf S w)(hQ:∀a w S d,Q .normal a w S->Q .normal a (w.at d) S){i:Nat}{oi:gz}{x:tj}{fuel:Nat}{done:Array Bool}(hi:ops[i]? = lp oi)(E6:Oq ly (Lv.contains ·) DC fn oi=s7)(hs:Region.noSelect ops=s7)(hf:Region.free .any ops done i=s7)(hr:(Region.ready .any ops done).contains i=s7)(hy:YE ops I oi x a)(hS:I w Shun)(h:B5 Post fn ops Q I fuel (done.setIfInBounds i s7) (a.put oi.dst x) w Shun):B5 Post fn ops Q I (fuel+1) done a w Shun:=
 B5.first hI E4 hQ hi E6 (Region.noSelect_spec hs) fuel done a w Shun (Region.free_spec hi hf) (by simpa using hr) hy hS h
theorem B5.only{i:Nat}{fuel:Nat}{done:Array Bool}(hr:Region.ready .any ops done = [i])(h:Yg Post fn ops i (fun a' w' S=>I w' S/\B5 Post fn ops Q I fuel (done.setIfInBounds i s7) a' w' S) a w Shun):B5 Post fn ops Q I (fuel+1) done a w Shun:=
 ⟨fun h0=>(by rw [hr] at h0;cases h0),fun j hj=>by rw [hr] at hj;simp at hj;subst hj;exact h⟩
theorem B5.all{done:Array Bool}(hr:Region.ready .any ops done = [])(h:Q .normal a w Shun):∀fuel,B5 Post fn ops Q I fuel done a w Shun
 | 0=>⟨hr,h⟩
 | _+1=>⟨fun _=>h,fun i hi=>by rw [hr] at hi;cases hi⟩
end
open Go.RowKit
def KQ(Shun:Loc->Prop)(w:qq)(Sh:Loc->Prop):Prop:=∀a:Addr,Sh (.cell a)->Shun (.cell a)∨w.heap.size<=a.block
theorem KQ.less{Shun Sh:Loc->Prop}{w w1:qq}(h:KQ Shun w1 Sh)(hs:w.heap.size<=w1.heap.size):KQ Shun w Sh:=fun a ha=>(h a ha).imp id fun x=>aE hs x
structure Xa(Tabs:qq->Prop)(gN:Nat)(Shun:Loc->Prop)(w:qq)(svb sb bb off:Nat)(n v o pv:tj)(hd body:List UInt8)(D tb wm sm:Nat)(last:Int):Prop where
 each:Jx w sb bb off n (gf vp) v (gf vp) o pv hd body
 S:Bf Shun w
 G:EY Tabs gN w
 sz:gN<=w.heap.size
 g8:8<=gN
 gs:gN<=sb
 gp:∀g,pv.ownBlock=lp g->gN<=g
 low:∀a:Addr,Shun (.cell a)->gN<=a.block
 hv:w.heap[svb]? = lp (ye (B0 D tb wm sm last vp) 84)
structure Pf(sb:Nat)(n v o:tj)(R:(Nat->Prop)->qq->qq->Prop):Prop where
 at_:∀(Bs:Nat->Prop) (u u':qq) (d:Nat),R Bs u u'->R Bs u (World.at u' d)
 os:∀(Bs:Nat->Prop) (u u':qq),R Bs u u'->u'.os=u.os/\u'.output=u.output
 blk:∀(Bs:Nat->Prop) (u u':qq) (p:tj),R Bs u u'->u.heap[sb]? = lp (ye (Bl n p (gf vp) v (gf vp) o) 75)->∃x' o',u'.heap[sb]? = lp (ye (Bl n p (gf vp) x' (gf vp) o') 75)
 keep:∀(Bs:Nat->Prop) (u u':qq) (j:Nat) (ob:Obj) (t:s8),R Bs u u'->kindOf ob=lp t->t=69∨t=84∨t=5∨t=115->u.heap[j]? = lp ob->u'.heap[j]? = lp ob
def Sk(Shun:Loc->Prop)(w:qq)(svb sb:Nat)(n v o pv:tj)(hd body:List UInt8)(R:(Nat->Prop)->qq->qq->Prop)(Hx:qq)(Sh:Loc->Prop):Prop:=
 ∃w0 wf u u' i x,PV w (boxes svb sb) w0/\Found w0 wf u Shun sb n (gf vp) v (gf vp) o pv hd body i x/\R (M4 Shun w0.heap.size sb) u u'/\Left w0 Shun sb i u' Hx/\Sh=fun l=>Shun l∨Hy (w0.heap.size+4) l
section
variable {Post:Da} {Tabs:qq->Prop} {gN:Nat} {Shun:Loc->Prop} {w w0:qq} {svb sb bb off bcap D tb wm sm:Nat} {n v o pv:tj} {hd body:List UInt8} {last:Int} {R:(Nat->Prop)->qq->qq->Prop}
theorem Xc{T:Da}{f:du}{Hz:Func}{c:Code}{args:Array tj}{Cd:tj→qq→(Loc→Prop)→Prop}(hf:prog.funcs[f]? = lp Hz)(Fo:(Hz.name == "runtime.NumGoroutine")=vp)(hbody:Hz.body=lp c)(h:∀(fr:Frame) (cs:List Frame),(∀v w' S,Cd v w' S→EF ly T S (G (fr.finish v) cs) w')→EF ly T Shun (G ((base f).at { tmps:=args++yl (Hz.ntmps - args.size) yj,defers:=[] } [.code c]) (fr :: cs)) w):De ly T f args Shun w Cd:=fun W e hF=>
 ⟨Hz,c,hf,Fo,hbody,fun fr cs hn=>h fr cs (fun v w' S q W' e' hF'=>hn v W' S ⟨hF',e'▸q⟩) W e hF⟩
theorem Lg{T:Da}{f:du}{Hz:Func}{c:Code}{args:Array tj}{Cd:tj→qq→(Loc→Prop)→Prop}{t:Tmp}(hf:prog.funcs[f]? = lp Hz)(Fo:(Hz.name == "runtime.NumGoroutine")=vp)(hbody:Hz.body=lp c)(Gr:Hz.results=#[.tmp t])(h:Jq ly T f c (fun e a w' S=>(e=.normal∨e=.ret)∧a.defers = []∧Cd (a.tmps.getD t yj) w' S) { tmps:=args++yl (Hz.ntmps - args.size) yj,defers:=[] } w Shun):De ly T f args Shun w Cd:=fun W e hF=>
 Vh hf Fo hbody Gr (Qo (h W e hF) fun e' a' W' S q=>⟨q.2.1,q.2.2.1,q.1,q.2.2.2⟩)
theorem Y0:∀o∈boxes svb sb,B7 o:=by
 intro o ho
 simp only [boxes,bI,cF,or_false] at ho
 rcases ho with rfl|rfl <;> trivial
theorem DT{T:Da}{fr:Frame}{cs:List Frame}{bl cap:Nat}{ba:Option Addr}(hS:Bf Shun w)(Bo:∀w',PV w (boxes svb sb) w'->EF ly T Shun (G ((base 34).at { tmps:=#[om (lp ⟨sb,1,od⟩),cf ba bl cap,I8 (w.heap.size+1) w.heap.size]++yl 27 yj,defers:=[] } [.code Et]) ((base 30).at (A30 svb sb w.heap.size (cf ba bl cap)) [.inRegion Uq [5,6],.code Yq] :: fr :: cs)) w') :
  EF ly T Shun (G ((base 30).at { tmps:=#[om (lp ⟨svb,0,od⟩),om (lp ⟨sb,0,od⟩),cf ba bl cap]++yl 35 yj,defers:=[] } [.code Ph]) (fr :: cs)) w:=by
 rintro W rfl hF
 refine JM (Jv.1 hS) fun W' hP=>?_
 have h:=Bo (Cf W') (FX hP Y0) W' rfl (hF.keep (DQ hP Y0))
 rw [Cw] at h
 exact h
theorem JL{T:Da}{fr:Frame}{cs:List Frame}{N:Nat}{bv:tj}(n1:¬Shun (.cell ⟨N+1,0,od⟩))(n2:¬Shun (.cell ⟨sb,4,od⟩))(hF:RE N sb w w)(Bo:∀d,EF ly T Shun (G (fr.finish (fh #[])) cs) (w.at d)) :
  EF ly T Shun (G (((base 30).at (A30 svb sb N bv) [.inRegion Uq [5,6],.code Yq]).finish (gf s7)) (fr :: cs)) w:=by
 rintro W rfl hFar
 refine PM n1 n2 ?_ fun d=>Bo d (W.at d) rfl hFar
 obtain⟨h1,h2,h3,h4,_⟩:=hF
 rw [N8] at h1 h3
 rw [Cw] at h2 h4
 exact⟨h1,h2,h3,h4,atRel_refl _⟩
theorem FM{os:List Obj}(hP:PV w os w0){j t:Nat}(hj:j<w.heap.size):Gb w0 j t↔Gb w j t:=by
 unfold Gb
 rw [hP.old j hj]
theorem Bf.onP{os:List Obj}(h:Bf Shun w)(hP:PV w os w0):Bf Shun w0:=fun l hl=>by
 obtain⟨a,rfl,ob,h1,h2⟩:=h l hl
 exact⟨a,rfl,ob,(hP.old _ (Ax h1)).trans h1,h2⟩
theorem Jx.onP{os:List Obj}{t e:tj}(h:Jx w sb bb off n t v e o pv hd body)(hP:PV w os w0)(hos:∀o∈os,B7 o):Jx w0 sb bb off n t v e o pv hd body:=by
 have hs:=hP.size
 refine⟨fun i x hi=>?_,(hP.old _ (Ax h.blk)).trans h.blk,Ff h.own fun g hg=>hP.old g (h.ap g hg).1,fun g hg=>?_,by have:=h.bl;omega,h.bs,?_,fun i hi=>(Ew (hP.old bb h.bl)).trans (h.bytes i hi),h.h4,h.un,h.pos,h.le⟩
 ·rcases cO i w.heap.size with hl|hl
  ·rw [hP.old i hl] at hi
   exact h.nf i x hi
  ·have Cg:=Ax hi
   have hj:i - w.heap.size<os.length:=Ab
   have:=hP.new (i - w.heap.size) _ (aR hj)
   rw [show w.heap.size+(i - w.heap.size)=i by omega,hi] at this
   cases this
   exact .inl (hos _ (dF _))
 ·obtain⟨h1,h2,h3,h4⟩:=h.ap g hg
  exact⟨Ab,h2,h3,fun hk=>h4 ((FM hP h1).1 hk)⟩
 ·exact fun hk=>h.bk ((FM hP h.bl).1 hk)
theorem Left.at{i:Nat×Nat}{u' w1:qq}(h:Left w0 Shun sb i u' w1)(d:Nat):Left w0 Shun sb i u' (w1.at d):=⟨h.size,h.same,h.old,h.blk,h.nf,h.wg,h.kind⟩
theorem Kr(hS:Bf Shun w0)(Gs:sb<w0.heap.size){cc:Array tj}(hb:w0.heap[sb]? = lp (ye cc 75)){k:Nat}(hk:k≠1):¬Vz Shun w0.heap.size sb (.cell ⟨sb,k,od⟩):=by
 rintro(⟨a,e,ha⟩|h)
 ·cases e
  injection ha with _ h2 _
  exact hk h2
 ·exact Jn hS Gs (by rintro⟨ob,h1,h2⟩;rw [hb] at h1;cases h1;cases h2) ((ji1 hS).cell _ h)
theorem Abv(I:Xa Tabs gN Shun w svb sb bb off n v o pv hd body D tb wm sm last)(Ea:(hd++body).length<=bcap)(hR:Pf sb n v o R)(HT:∀w0 wf u i x Stop,PV w (boxes svb sb) w0->Found w0 wf u Shun sb n (gf vp) v (gf vp) o pv hd body i x->Cx Tabs gN (Vz Shun w0.heap.size sb) (M4 Shun w0.heap.size sb) u->KZ (M4 Shun w0.heap.size sb) u x body ->
   Bz ly s7 (Vz Shun w0.heap.size sb) Stop 36 #[om (lp ⟨svb,0,od⟩),om (lp ⟨sb,0,od⟩),x] u fun r u'=>r=fh #[]/\R (M4 Shun w0.heap.size sb) u u') :
  De ly Post 30 #[om (lp ⟨svb,0,od⟩),om (lp ⟨sb,0,od⟩),cf (lp ⟨bb,off,od⟩) (hd++body).length bcap] Shun w fun val w' Sh=>val=fh #[]/\Sk Shun w svb sb n v o pv hd body R w' Sh:=by
 refine Xc (c:=Ph) func30 Ac Ac fun fr cs hn=>?_
 refine DT I.S fun w0 hP=>?_
 have E0:=I.each.onP hP (by simp [boxes,B7])
 have S0:=I.S.onP hP
 have Di:w0.heap.size=w.heap.size+2:=hP.size
 have hsbl:=Ax I.each.blk
 have hsb0:sb<w0.heap.size:=Ab
 have hvl:=Ax I.hv
 have hv0:=(hP.old _ hvl).trans I.hv
 have hob0:w0.heap[w.heap.size+1]? = lp (ye #[om (lp ⟨sb,0,od⟩)] 69):=hP.new 1 _ rfl
 have hvb0:w0.heap[w.heap.size]? = lp (ye #[om (lp ⟨svb,0,od⟩)] 61):=hP.new 0 _ rfl
 have nk:∀{j:Nat} {c:Array tj} {t:s8},w0.heap[j]? = lp (ye c t)->t≠115->¬Gb w0 j 115:=fun h ht ⟨ob,h1,h2⟩=>by
  rw [h] at h1
  cases h1
  exact ht (aC h2)
 have nob:∀{j:Nat} {c:Array tj} {t:s8},w0.heap[j]? = lp (ye c t)->t≠5->pv.ownBlock≠lp j:=fun {j c t} h ht e=>by
  rcases E0.own.2 with⟨rfl,_⟩|⟨g,cap,cur,rfl,_,hg,_⟩
  ·cases e
  ·obtain rfl:g=j:=by simpa [qb] using e
   rw [h] at hg
   cases hg
   exact ht rfl
 have nsb:∀{j:Nat} {c:Array tj} {t:s8},w0.heap[j]? = lp (ye c t)->t≠75->j≠sb:=fun h ht e=>by
  subst e
  rw [E0.blk] at h
  cases h
  exact ht rfl
 refine Abb E0 S0 Ea (fun wf i v'=>∃u x,Found w0 wf u Shun sb n (gf vp) v (gf vp) o pv hd body i x/\R (M4 Shun w0.heap.size sb) u v') (fun wf i v' d ⟨u,x,hf,hr⟩=>⟨u,x,hf,hR.at_ _ u v' d hr⟩) (fun wf i v' ⟨u,x,hf,hr⟩=>?_) (fun wf u i x hf Stop=>?_) (fun wf i u' w1 hN ⟨u,x,hf,hr⟩ hL=>?_)
 ·obtain⟨h1,h2⟩:=hR.os _ u v' hr
  obtain⟨x',o',h3⟩:=hR.blk _ u v' _ hr hf.blk
  exact⟨⟨h1.trans hf.os,h2.trans hf.out⟩,_,_,_,_,_,h3⟩
 ·have C:=MW hf S0 (fun z hz hs=>I.G z (fun j hj=>(hz j hj).trans (hP.old j (by have:=I.sz;omega))) hs) (by have:=I.sz;omega) I.g8 I.gs I.gp (fun j hj h=>by
   rcases h with⟨h1,_⟩|⟨a,ha,rfl⟩
   ·have:=I.sz;omega
   ·have:=I.low a ha;omega)
  have smm {j:Nat} {c:Array tj} {t:s8} (h:w0.heap[j]? = lp (ye c t)) (h1:t≠115) (h2:t≠5) (h3:t≠75):u.heap[j]? = lp (ye c t)/\¬M4 Shun w0.heap.size sb j:=
   ⟨(hf.same j (Ax h) (nsb h h3) (nob h h2) (Jn S0 (Ax h) (nk h h1))).trans h,Nn S0 (Ax h) (nsb h h3) (nk h h1)⟩
  obtain⟨a1,a2⟩:=smm hv0 Ad Ad Ad
  obtain⟨b1,b2⟩:=smm hob0 Ad Ad Ad
  obtain⟨c1,c2⟩:=smm hvb0 Ad Ad Ad
  refine Dm (YY C sb (w.heap.size+1) w.heap.size n _ (gf vp) v x D tb wm sm last o hf.blk (Kr S0 hsb0 E0.blk Ad) a1 a2 b1 b2 c1 c2 (R (M4 Shun w0.heap.size sb) u) (HT w0 wf u i x Stop hP hf C (Y3 hf S0 hsb0))) fun r u' ⟨h1,h2⟩=>⟨h1,u,x,hf,h2⟩
 ·have smm {j:Nat} {c:Array tj} {t:s8} (h:w0.heap[j]? = lp (ye c t)) (h1:t≠115) (h2:t≠5) (h3:t≠75):u.heap[j]? = lp (ye c t)/\¬M4 Shun w0.heap.size sb j:=
   ⟨(hf.same j (Ax h) (nsb h h3) (nob h h2) (Jn S0 (Ax h) (nk h h1))).trans h,Nn S0 (Ax h) (nsb h h3) (nk h h1)⟩
  obtain⟨b1,b2⟩:=smm hob0 Ad Ad Ad
  have b3:=hR.keep _ u u' _ _ 69 hr rfl (.inl rfl) b1
  have b4:=(hL.old _ (Ax b3) b2).trans b3
  obtain⟨x',o',c3⟩:=hR.blk _ u u' _ hr hf.blk
  have c4:=hL.blk _ _ _ _ _ _ c3
  refine JL ?_ ?_ ⟨cellOf (j:=0) b4 rfl,Ax b4,cellOf (j:=4) c4 rfl,Ax c4,atRel_refl _⟩ fun d=>hn _ _ _ ⟨rfl,w0,wf,u,u',i,x,hP,hf,hr,hL.at d,rfl⟩
  ·rintro(h|⟨a,e,ha⟩)
   ·exact S0.not hob0 (by simp [kindOf]) h
   ·cases e
    have ha':w.heap.size+1=w0.heap.size+4:=ha
    omega
  ·rintro(h|⟨a,e,ha⟩)
   ·exact S0.not E0.blk (by simp [kindOf]) h
   ·cases e
    have ha':sb=w0.heap.size+4:=ha
    omega
theorem DR{wf u:qq}{i:Nat×Nat}{x:tj}(hS:Bf Shun w)(E:Jx w sb bb off n (gf vp) v (gf vp) o pv hd body)(hP:PV w (boxes svb sb) w0)(hf:Found w0 wf u Shun sb n (gf vp) v (gf vp) o pv hd body i x){j:Nat}{ob:Obj}(h:w.heap[j]? = lp ob)(h1:kindOf ob=lp 115->¬F6 Shun j)(h2:j≠sb)(h3:pv.ownBlock≠lp j):u.heap[j]? = lp ob/\¬M4 Shun w0.heap.size sb j:=by
 have hl:=Ax h
 have Di:w0.heap.size=w.heap.size+2:=hP.size
 have h0:=(hP.old _ hl).trans h
 have hk:¬Wx Shun w0.heap.size j:=by
  rintro(⟨h4,_⟩|⟨a,ha,rfl⟩)
  ·omega
  ·obtain⟨a',e',ob',e1,e2⟩:=hS _ ha
   cases e'
   rw [h] at e1
   cases e1
   exact h1 e2 ⟨a,ha,rfl⟩
 exact⟨(hf.same j Ab h2 h3 hk).trans h0,fun h=>h.elim h2 hk⟩
structure After(Shun:Loc->Prop)(w:qq)(sb:Nat)(n v o pv:tj)(R:(Nat->Prop)->qq->qq->Prop)(Hx:qq)(Sh:Loc->Prop)(Bs:Nat->Prop)(J:Loc->Prop)(u u':qq)(i:Nat×Nat):Prop where
 r:R Bs u u'
 nf:NF Hx
 shun:Bf Sh Hx
 same:u'.heap.size<=Hx.heap.size
 sz:w.heap.size<=u.heap.size
 W:VW J Bs u
 shl:KQ Shun w Sh
 old:∀j ob,w.heap[j]? = lp ob->(kindOf ob=lp 115->¬F6 Shun j)->j≠sb->pv.ownBlock≠lp j->u.heap[j]? = lp ob/\¬Bs j
 new:∀j,j<u'.heap.size->¬Bs j->Hx.heap[j]? = u'.heap[j]?
 fresh:∀j,u.heap.size<=j->¬Bs j
 blk0:∃p,u.heap[sb]? = lp (ye (Bl n p (gf vp) v (gf vp) o) 75)
 blk:∀n p t x e o,u'.heap[sb]? = lp (ye (Bl n p t x e o) 75)->Hx.heap[sb]? = lp (ye (Bl n (cf (lp ⟨i.1,0,od⟩) 0 i.2) t x e o) 75)
 own:Hx.ownsRow 0 5 1 (cf (lp ⟨i.1,0,od⟩) 0 i.2) 0 (A0 [])
 part:pv.ownBlock=lp i.1∨w.heap.size<=i.1
theorem after(hS:Bf Shun w)(E:Jx w sb bb off n (gf vp) v (gf vp) o pv hd body)(hR:Pf sb n v o R){Hx:qq}{Sh:Loc->Prop}(h:Sk Shun w svb sb n v o pv hd body R Hx Sh):∃Bs J u u' i,After Shun w sb n v o pv R Hx Sh Bs J u u' i:=by
 obtain⟨w0,wf,u,u',i,x,hP,hf,hr,hL,rfl⟩:=h
 have S0:=hS.onP hP
 have E0:=E.onP hP (by simp [boxes,B7])
 have Di:w0.heap.size=w.heap.size+2:=hP.size
 have hsb0:=Ax E0.blk
 refine⟨M4 Shun w0.heap.size sb,Vz Shun w0.heap.size sb,u,u',i,hr,hL.nf,fun l hl=>?_,hL.size,by have:=hf.size;omega,hf.W,fun a ha=>?_,fun j ob h1 h2 h3 h4=>DR hS E hP hf h1 h2 h3 h4,hL.old,fun j hj=>Nl S0 hsb0 (by have:=hf.size;omega),⟨_,hf.blk⟩,hL.blk,?_,?_⟩
 ·rcases hl with hl|⟨a,rfl,ha⟩
  ·obtain⟨a,rfl,hk⟩:=S0 l hl
   refine⟨a,rfl,hL.kind _ (by obtain⟨ob,h1,_⟩:=hk;exact Ax h1) ?_⟩
   obtain⟨ob,h1,h2⟩:=hf.kind _ hk
   exact⟨ob,hR.keep _ u u' _ _ 115 hr h2 (o5 (o5 (o5 rfl))) h1,h2⟩
  ·exact⟨a,rfl,by rw [ha];exact hL.wg⟩
 ·rcases ha with ha|⟨b,e,hb⟩
  ·exact .inl ha
  ·cases e
   have Es:a.block=w0.heap.size+4:=hb
   exact o5 Ab
 ·rcases hf.own.2 with⟨e,_⟩|⟨g,cap,cur,e,h0,hg,h1,h2,h3,h4⟩
  ·cases e
  ·simp only [Value.slice.injEq,aL,Addr.mk.injEq,and_true] at e
   obtain⟨rfl,_,rfl⟩:=e
   have hu':=hR.keep _ u u' _ _ 5 hr rfl (o5 (o5 (.inl rfl))) hg
   have hnb:¬M4 Shun w0.heap.size sb i.1:=by
    rcases hf.part with hp|hp
    ·obtain⟨a1,a2,a3,a4⟩:=E0.ap _ hp
     exact Nn S0 a1 a2 a4
    ·exact Nl S0 hsb0 hp
   refine⟨by simp [A0],o5 ⟨i.1,i.2,cur,rfl,cC _,(hL.old _ (Ax hu') hnb).trans hu',cC _,h2,h3,by simp [A0]⟩⟩
 ·rcases hf.part with hp|hp
  ·exact .inl hp
  ·exact o5 Ab
end
section
variable {T:Da} {fn:du} {Q:Exit->Act->qq->(Loc->Prop)->Prop} {a:Act} {w:qq} {Shun:Loc->Prop} {ops:Array gz} {i:Nat} {l:List Nat} {o:gz}
theorem Bu{P:Program}{id:Nat}(h:Gx P T fn ops l Q a w Shun)(hl:List.range ops.size=l:=by(simp only [aU,aK,aI,Nat.reduceAdd,aM,List.range,List.range.loop];exact rfl)):Jq P T fn (.region id ops false) Q a w Shun:=EU (hl▸h)
theorem Aq{x:Value}(h:Gx Tryz.prog T fn ops l Q (a.put o.dst x) w Shun)(ho:ops[i]? = some o:=by exact rfl)(hw:Region.wanted o (yielded ops a.tmps)=true:=by rfl)(hr:∀w,(execOp a.eval o).run Tryz.prog w=.ok (.value x) w:=by(intro wz;first|rfl|(go_simp;done)|(go_simp;rfl)))(he:∀w,(execOp a.eval o).events Tryz.prog w #[]=#[]:=by(intro wz;first|rfl|(go_simp;done)|(go_simp;rfl))):Gx Tryz.prog T fn ops (i :: l) Q a w Shun:=Dr ho hw hr he h
end
section
variable {Post:Da} {Tabs:qq->Prop} {gN:Nat} {Shun:Loc->Prop} {w w0:qq} {svb sb bb off bcap D tb wm sm:Nat} {n v o pv:tj} {hd body:List UInt8} {last:Int} {R:(Nat->Prop)->qq->qq->Prop}
theorem Jm(hS:Bf Shun w){j:Nat}{ob:Obj}(h:w.heap[j]? = lp ob)(hk:kindOf ob≠lp 115):¬F6 Shun j:=by
 rintro⟨a,ha,rfl⟩
 obtain⟨a',e,o',h1,h2⟩:=hS _ ha
 cases e
 rw [h] at h1
 cases h1
 exact hk h2
theorem Dl(hS:Bf Shun w)(hn:NF w){z:qq}(hs:Cq (F6 Shun) w z){j:Nat}{ob:Obj}(h:w.heap[j]? = lp ob)(hk:kindOf ob≠lp 115):z.heap[j]? = lp ob:=(hs.same hn (Jm hS h hk)).trans h
theorem XR(I:Xa Tabs gN Shun w svb sb bb off n v o pv hd body D tb wm sm last)(Ea:(hd++body).length<=bcap)(hR:Pf sb n v o R)(HT:∀w0 wf u i x Stop,PV w (boxes svb sb) w0->Found w0 wf u Shun sb n (gf vp) v (gf vp) o pv hd body i x->Cx Tabs gN (Vz Shun w0.heap.size sb) (M4 Shun w0.heap.size sb) u->KZ (M4 Shun w0.heap.size sb) u x body ->
   Bz ly s7 (Vz Shun w0.heap.size sb) Stop 36 #[om (lp ⟨svb,0,od⟩),om (lp ⟨sb,0,od⟩),x] u fun r u'=>r=fh #[]/\R (M4 Shun w0.heap.size sb) u u')(num:Int){m:Array MapEntry}{ck:Nat}(hsm:w.heap[sm]? = lp (.map m ck))(hlk:∀z:qq,z.heap[sm]? = w.heap[sm]?->(ry 82 (.map (lp sm)) (rl tz num) vp).run ly z=.ok (om (lp ⟨sb,0,od⟩)) z) :
  De ly Post 22 #[om (lp ⟨svb,0,od⟩),rl tz num,cf (lp ⟨bb,off,od⟩) (hd++body).length bcap] Shun w fun val w' Sh=>val=rl tz 0/\Sk Shun w svb sb n v o pv hd body R w' Sh:=by
 have hn:=I.each.nf
 have svg:∀z,Cq (F6 Shun) w z->z.heap[svb]? = lp (ye (B0 D tb wm sm last vp) 84):=fun z hz=>Dl I.S hn hz I.hv (by simp [kindOf])
 have ssb:∀z,Cq (F6 Shun) w z->z.heap[sb]? = lp (ye (Bl n pv (gf vp) v (gf vp) o) 75):=fun z hz=>Dl I.S hn hz I.each.blk (by simp [kindOf])
 have ssm:∀z,Cq (F6 Shun) w z->z.heap[sm]? = w.heap[sm]?:=fun z hz=>(Dl I.S hn hz hsm (by simp [kindOf])).trans hsm.symm
 refine Lg (t:=6) func22 Ac rfl Ac ?_
 simp only [ntmps22,na,Nat.reduceAdd,Nat.reduceSub]
 refine Qvz ?_
 refine Ecj ?_
 refine Qvz ?_
 refine L4k ?_
 refine Eo (x:=(om (lp ⟨sb,0,od⟩))) rfl Ac rfl Ad I.S (by walk_nrm;exact(fun z hz=>Wj z svb sm sb num (cellOf (j:=3) (svg z hz) rfl) (hlk z (ssm z hz)))) ?_;walk_nrm
 refine Ecj ?_
 refine B77 ?_
 refine U2i ?_
 refine Ctl ?_
 refine B77 ?_
 refine Qxj ?_
 refine Eo (x:=(gf vp)) rfl Ac rfl Ad I.S (by walk_nrm;exact(fun z hz=>Mn z svb (cellOf (j:=5) (svg z hz) rfl))) ?_;walk_nrm
 refine Ctl ?_
 refine G08 ?_
 iterate 3(refine Al ?_)
 refine F0 (x:=(gf vp)) rfl Ac Aa I.S (fun vz hvz=>by have hcz:=(fun z hz=>(cellOf (j:=4) (ssb z hz) rfl:z.cell? ⟨sb,4,od⟩=lp (gf vp))) vz hvz;walk_nrm;go_simp) ?_;walk_nrm
 refine Ecj ?_
 refine Az0 ?_
 refine Bu ?_
 iterate 3(refine Al ?_)
 refine Cc rfl Ac rfl (by walk_nrm;exact(Abv (Post:=Post) I Ea hR HT)) ?_
 rintro x w2 Sh2 ⟨rfl,hout⟩
 walk_nrm
 refine Dc8 ?_
 obtain⟨Bs,J,u,u',i,A⟩:=after I.S I.each hR hout
 have hnsb:svb≠sb:=fun e=>by
  have:=I.hv
  rw [e,I.each.blk] at this
  simp at this
 have hnpv:pv.ownBlock≠lp svb:=fun e=>by
  rcases I.each.own.2 with⟨rfl,_⟩|⟨g,cap,cur,rfl,_,hg,_⟩
  ·cases e
  ·obtain rfl:g=svb:=by simpa [qb] using e
   rw [I.hv] at hg
   simp at hg
 obtain⟨a1,a2⟩:=A.old svb _ I.hv (by simp [kindOf]) hnsb hnpv
 have a3:=hR.keep _ u u' _ _ 84 A.r rfl (o5 (.inl rfl)) a1
 have a4:=(A.new _ (Ax a3) a2).trans a3
 refine B77 ?_
 refine Qxj ?_
 refine Eo (x:=(gf vp)) rfl Ac rfl Ad A.shun (by walk_nrm;exact(fun z hz=>Mn z svb (cellOf (j:=5) (Dl A.shun A.nf hz a4 (by simp [kindOf])) rfl))) ?_;walk_nrm
 refine Ctl ?_
 refine Qvz ?_
 refine Ecj ?_
 exact I4 ⟨o5 rfl,rfl,rfl,hout⟩
theorem NN(I:Xa Tabs gN Shun w svb sb bb off n v o pv hd body D tb wm sm last)(Ea:(hd++body).length<=bcap)(hR:Pf sb n v o R)(HT:∀w0 wf u i x Stop,PV w (boxes svb sb) w0->Found w0 wf u Shun sb n (gf vp) v (gf vp) o pv hd body i x->Cx Tabs gN (Vz Shun w0.heap.size sb) (M4 Shun w0.heap.size sb) u->KZ (M4 Shun w0.heap.size sb) u x body ->
   Bz ly s7 (Vz Shun w0.heap.size sb) Stop 36 #[om (lp ⟨svb,0,od⟩),om (lp ⟨sb,0,od⟩),x] u fun r u'=>r=fh #[]/\R (M4 Shun w0.heap.size sb) u u')(num:Int){m:Array MapEntry}{ck:Nat}(hsm:w.heap[sm]? = lp (.map m ck))(hlk:∀z:qq,z.heap[sm]? = w.heap[sm]?->(ry 82 (.map (lp sm)) (rl tz num) vp).run ly z=.ok (om (lp ⟨sb,0,od⟩)) z)(Cp:Nat){c:Array tj}{t:s8}(hos:w.heap[Cp]? = lp (ye c t))(hc0:c[0]? = lp (om (lp ⟨svb,0,od⟩)))(ht:t≠115) :
  De ly Post 9 #[om (lp ⟨Cp,0,od⟩),rl tz num,cf (lp ⟨bb,off,od⟩) (hd++body).length bcap] Shun w fun val w' Sh=>val=rl tz 0/\Sk Shun w svb sb n v o pv hd body R w' Sh:=by
 have hn:=I.each.nf
 refine Lg (t:=6) func9 Ac rfl Ac ?_
 simp only [ntmps9,na,Nat.reduceAdd,Nat.reduceSub]
 refine Qvz ?_
 refine Ecj ?_
 refine Qvz ?_
 refine Al ?_
 refine Eo (x:=(om (lp ⟨svb,0,od⟩))) rfl Ac rfl Ad I.S (by walk_nrm;exact(fun z hz=>Ob z Cp _ (cellOf (j:=0) (Dl I.S hn hz hos (by simpa [kindOf] using ht)) hc0))) ?_;walk_nrm
 refine L4k ?_
 refine Cc rfl Ac rfl (by walk_nrm;exact(XR (Post:=Post) I Ea hR HT num hsm hlk)) ?_
 rintro x w2 Sh2 ⟨rfl,hout⟩
 walk_nrm
 refine Ecj ?_
 exact I4 ⟨o5 rfl,rfl,rfl,hout⟩
end
structure Hc(gN:Nat)(w:qq)(p:tj):Prop where
 own:w.ownsRow 0 5 1 p 0 (A0 [])
 low:∀g,p.ownBlock=lp g->gN<=g
theorem Hc.get{gN:Nat}{w:qq}{p:tj}(h:Hc gN w p){g:Nat}(hg:p.ownBlock=lp g):∃c,w.heap[g]? = lp (ye c 5):=by
 rcases h.own.2 with⟨rfl,_⟩|⟨g',cap,cur,rfl,_,h1,_⟩
 ·cases hg
 ·obtain rfl:g'=g:=by simpa [qb] using hg
  exact⟨cur,h1⟩
theorem Hc.keep{gN:Nat}{w w':qq}{p:tj}(h:Hc gN w p)(hk:∀g c,p.ownBlock=lp g->w.heap[g]? = lp (ye c 5)->w'.heap[g]? = lp (ye c 5)):Hc gN w' p:=
 ⟨Ff h.own fun g hg=>by obtain⟨c,h1⟩:=h.get hg;rw [h1];exact hk g c hg h1,h.low⟩
theorem Hc.nil(gN:Nat)(w:qq):Hc gN w (cf od 0 0):=⟨⟨rfl,.inl ⟨rfl,rfl⟩⟩,fun g h=>by cases h⟩
structure Base(Tabs:qq->Prop)(gN:Nat)(Shun:Loc->Prop)(w:qq):Prop where
 nf:NF w
 S:Bf Shun w
 G:EY Tabs gN w
 sz:gN<=w.heap.size
 g8:8<=gN
 low:∀a:Addr,Shun (.cell a)->gN<=a.block
theorem Base.nb{Tabs:qq->Prop}{gN:Nat}{Shun:Loc->Prop}{w:qq}(B:Base Tabs gN Shun w){j:Nat}(hj:j<gN):¬F6 Shun j:=fun⟨a,ha,e⟩=>by have:=B.low a ha;omega
structure WR(w:qq)(bb off:Nat)(hd body:List UInt8):Prop where
 row:∃cs fz,w.heap[bb]? = lp (ye cs 5 fz)
 bytes:Bytes w bb off (hd++body)
 h4:hd.length=4
 un:uns hd=body.length
 pos:0<body.length
 le:body.length<=1000
section
variable {Post:Da} {valid:ByteArray->Bool} {Tabs:qq->Prop} {gN:Nat} {Shun:Loc->Prop} {w:qq} {svb sb bb off bcap D tb wm sm:Nat} {n v o pv:tj} {hd body:List UInt8} {last:Int}
theorem Rb(B:Base Tabs gN Shun w)(hv:w.heap[svb]? = lp (ye (B0 D tb wm sm last vp) 84))(blk:w.heap[sb]? = lp (ye (Bl n pv (gf vp) v (gf vp) o) 75))(gs:gN<=sb)(P:Hc gN w pv)(F:WR w bb off hd body)(Cu:pv.ownBlock≠lp bb) :
  Xa Tabs gN Shun w svb sb bb off n v o pv hd body D tb wm sm last:=by
 obtain⟨cs,fz,hr⟩:=F.row
 refine⟨⟨B.nf,blk,P.own,fun g hg=>?_,Ax hr,fun e=>?_,?_,F.bytes,F.h4,F.un,F.pos,F.le⟩,B.S,B.G,B.sz,B.g8,gs,P.low,B.low,hv⟩
 ·obtain⟨c,h1⟩:=P.get hg
  refine⟨Ax h1,fun e=>?_,fun e=>Cu (by rw [←e];exact hg),?_⟩
  ·subst e
   rw [blk] at h1
   simp at h1
  ·rintro⟨ob,h2,h3⟩
   rw [h1] at h2
   cases h2
   simp [kindOf] at h3
 ·subst e
  rw [blk] at hr
  simp at hr
 ·rintro⟨ob,h2,h3⟩
  rw [hr] at h2
  cases h2
  simp [kindOf] at h3
def Q3:List UInt8:=[0,0,0,4,0,0,0,1]
def RH(sb:Nat)(n:tj)(_:Nat->Prop)(u u':qq):Prop:=
 ∃p ov,u.heap[sb]? = lp (ye (Bl n p (gf vp) (rl tz 0) (gf vp) (cf od 0 0)) 75)/\Ar u u' (· = sb)/\u'.heap[sb]? = lp (ye (Bl n p (gf vp) (rl tz 1) (gf vp) ov) 75)/\u'.ownsRow u.heap.size 5 1 ov 8 (A0 Q3)
theorem WA(sb:Nat)(n:tj):Pf sb n (rl tz 0) (cf od 0 0) (RH sb n):=by
 refine⟨fun Bs u u' d h=>?_,fun Bs u u' h=>?_,fun Bs u u' p h hb=>?_,fun Bs u u' j ob t h hk ht hj=>?_⟩
 ·obtain⟨p,ov,h1,h2,h3,h4⟩:=h
  exact⟨p,ov,h1,h2.at d,h3,h4⟩
 ·obtain⟨p,ov,h1,h2,h3,h4⟩:=h
  exact⟨h2.os,h2.output⟩
 ·obtain⟨p',ov,h1,h2,h3,h4⟩:=h
  rw [h1] at hb
  simp only [aL,qi,Bl,dL,bV,and_true,true_and] at hb
  rw [←hb]
  exact⟨_,_,h3⟩
 ·obtain⟨p',ov,h1,h2,h3,h4⟩:=h
  refine(h2.block j (Ax hj) fun e=>?_).trans hj
  subst e
  rw [h1] at hj
  cases hj
  simp [kindOf] at hk
  subst hk
  simp at ht
structure Aan(gN:Nat)(Shun:Loc->Prop)(w w':qq)(Sh:Loc->Prop)(sb:Nat)(n pv:tj)(i:Nat×Nat)(ov:tj):Prop where
 nf:NF w'
 S:Bf Sh w'
 size:w.heap.size<=w'.heap.size
 shl:KQ Shun w Sh
 old:∀j ob,w.heap[j]? = lp ob->(kindOf ob=lp 115->¬F6 Shun j)->j≠sb->pv.ownBlock≠lp j->w'.heap[j]? = lp ob
 blk:w'.heap[sb]? = lp (ye (Bl n (cf (lp ⟨i.1,0,od⟩) 0 i.2) (gf vp) (rl tz 1) (gf vp) ov) 75)
 own:w'.ownsRow 0 5 1 (cf (lp ⟨i.1,0,od⟩) 0 i.2) 0 (A0 [])
 part:pv.ownBlock=lp i.1∨w.heap.size<=i.1
 out:w'.ownsRow w.heap.size 5 1 ov 8 (A0 Q3)
theorem YA(U:Jk valid Tabs)(B:Base Tabs gN Shun w)(hv:w.heap[svb]? = lp (ye (B0 D tb wm sm last vp) 84))(blk:w.heap[sb]? = lp (ye (Bl n pv (gf vp) (rl tz 0) (gf vp) (cf od 0 0)) 75))(gs:gN<=sb)(P:Hc gN w pv)(F:WR w bb off [0,0,0,4] [0,0,0,1])(Cu:pv.ownBlock≠lp bb)(Ea:8<=bcap)(num:Int){m:Array MapEntry}{ck:Nat}(hsm:w.heap[sm]? = lp (.map m ck))(hlk:∀z:qq,z.heap[sm]? = w.heap[sm]?->(ry 82 (.map (lp sm)) (rl tz num) vp).run ly z=.ok (om (lp ⟨sb,0,od⟩)) z)(Cp:Nat){c:Array tj}{t:s8}(hos:w.heap[Cp]? = lp (ye c t))(hc0:c[0]? = lp (om (lp ⟨svb,0,od⟩)))(ht:t≠115) :
  De ly Post 9 #[om (lp ⟨Cp,0,od⟩),rl tz num,cf (lp ⟨bb,off,od⟩) 8 bcap] Shun w fun val w' Sh=>val=rl tz 0/\∃i ov,Aan gN Shun w w' Sh sb n pv i ov:=by
 have I:=Rb B hv blk gs P F Cu
 have S0:=B.S
 have HT:∀w0 wf u i x Stop,PV w (boxes svb sb) w0->Found w0 wf u Shun sb n (gf vp) (rl tz 0) (gf vp) (cf od 0 0) pv [0,0,0,4] [0,0,0,1] i x->Cx Tabs gN (Vz Shun w0.heap.size sb) (M4 Shun w0.heap.size sb) u->KZ (M4 Shun w0.heap.size sb) u x [0,0,0,1] ->
   Bz ly s7 (Vz Shun w0.heap.size sb) Stop 36 #[om (lp ⟨svb,0,od⟩),om (lp ⟨sb,0,od⟩),x] u fun r u'=>r=fh #[]/\RH sb n (M4 Shun w0.heap.size sb) u u':=fun w0 wf u i x Stop hP hf C hB=>by
  have E0:=I.each.onP hP (by simp [boxes,B7])
  have hl:=Ax E0.blk
  have j3:=Kr (S0.onP hP) hl E0.blk (k:=3) Ad
  have j5:=Kr (S0.onP hP) hl E0.blk (k:=5) Ad
  refine Dm (ZP U C (om (lp ⟨svb,0,od⟩)) x n _ (gf vp) (gf vp) sb hf.blk gs j3 j5 hB) fun r u' ⟨a1,a2,a3,ov,a4,a5⟩=>⟨a1,_,ov,hf.blk,a2,a4,a5⟩
 refine D6 (NN (Post:=Post) (bcap:=bcap) I (by simpa using Ea) (WA sb n) HT num hsm hlk Cp hos hc0 ht) ?_
 rintro val w' Sh ⟨rfl,hout⟩
 obtain⟨Bs,J,u,u',i,A⟩:=after S0 I.each (WA sb n) hout
 obtain⟨p,ov,e1,K,e2,e3⟩:=A.r
 refine⟨rfl,i,ov,A.nf,A.shun,aE A.sz (aE K.size A.same),A.shl,fun j ob a1 a2 a3 a4=>?_,A.blk _ _ _ _ _ _ e2,A.own,A.part,Df (D8 e3 fun g hg hl=>A.new g hl (A.fresh g hg)) A.sz⟩
 obtain⟨b1,b2⟩:=A.old j ob a1 a2 a3 a4
 have b3:=(K.block j (Ax b1) a3).trans b1
 exact(A.new j (Ax b3) b2).trans b3
end
open Go.Maps
section
variable {Post:Da} {valid:ByteArray->Bool} {Tabs:qq->Prop} {gN:Nat} {Shun Sh:Loc->Prop} {Bs Bs':Nat->Prop} {J:Loc->Prop} {w w' u u':qq} {Cp svb sb bb off bcap D K tb mb wm sm s1 s2:Nat} {lg:Option (Nat×Nat)} {last num:Int} {ns:List (ByteArray×Nd)} {ks:List tj} {n v o pv p1 o1 p2 o2:tj} {hd body:List UInt8} {i:Nat×Nat} {R:(Nat->Prop)->qq->qq->Prop} {X:Nat->Prop}
def Ym(ob:Obj):Prop:=kindOf ob≠lp 75/\kindOf ob≠lp 5/\kindOf ob≠lp 115
theorem Qr.turn(S:Qr Bs gN w svb D K tb mb wm sm s1 s2 lg last num ns ks)(hb:∀j ob,¬Bs j->w.heap[j]? = lp ob->Ym ob->u.heap[j]? = lp ob/\¬Bs' j):Qr Bs' gN u svb D K tb mb wm sm s1 s2 lg last num ns ks:=by
 have mp:∀{k:s8} {b:Nat} {m:List (tj×tj)},Bm ly k w b m->¬Bs b->Bm ly k u b m/\¬Bs' b:=fun h hn=>by
  obtain⟨es,clock,h1⟩:=h.obj
  obtain⟨h2,h3⟩:=hb _ _ hn h1 (by simp [Ym,kindOf])
  exact⟨h.of_block (h2.trans h1.symm),h3⟩
 obtain⟨v1,v2⟩:=hb _ _ S.nv S.hv (by simp [Ym,kindOf])
 obtain⟨t1,t2⟩:=hb _ _ S.nt S.ht.blk (by simp [Ym,kindOf])
 obtain⟨m1,m2⟩:=mp S.ht.map S.nm
 obtain⟨w1,w2⟩:=mp S.hw S.nw
 obtain⟨n1,n2⟩:=mp S.hm S.nsm
 obtain⟨d1,d2⟩:=hb _ _ S.hd.nd S.hd.dsk (by simp [Ym,kindOf])
 have hd:Jj Bs' u D K lg:=by
  have Dk:=S.hd.st
  have hnk:=S.hd.nk
  have Cu:=S.hd.ne
  cases lg with
  | none=>
   obtain⟨k1,k2⟩:=hb _ _ hnk Dk (by simp [Ym,kindOf])
   exact⟨d1,k1,d2,k2,Cu⟩
  | some q=>
   obtain⟨fc,cur,s,data,a1,a2,a3,a4,a5,a6,a7,a8,a9⟩:=Dk
   obtain⟨k1,k2⟩:=hb _ _ hnk a1 (by simp [Ym,kindOf])
   obtain⟨q1,q2⟩:=hb _ _ a7 a2 (by simp [Ym,kindOf])
   exact⟨d1,⟨fc,cur,s,data,k1,q1,a3,a4,a5,a6,q2,a8,a9⟩,d2,k2,Cu⟩
 exact⟨v1,⟨t1,m1⟩,S.tk,w1,n1,hd,v2,t2,m2,w2,n2,S.gv,S.gt,S.gm,S.gw,S.gK,S.gg,S.wmb,S.wsm,S.mbs⟩
structure W2(Tabs:qq->Prop)(gN:Nat)(Shun:Loc->Prop)(w:qq)(Cp svb D K tb mb wm sm s1 s2:Nat)(lg:Option (Nat×Nat))(last num:Int)(ns:List (ByteArray×Nd))(ks:List tj)(p1 o1 p2 o2:tj):Prop where
 B:Base Tabs gN Shun w
 srv:Qr (F6 Shun) gN w svb D K tb mb wm sm s1 s2 lg last num ns ks
 b1:w.heap[s1]? = lp (ye (Bl (rl tz 1) p1 (gf vp) (rl tz 1) (gf vp) o1) 75)
 b2:w.heap[s2]? = lp (ye (Bl (rl tz 2) p2 (gf vp) (rl tz 1) (gf vp) o2) 75)
 r1:Hc gN w p1
 r2:Hc gN w p2
 dis:∀g,p1.ownBlock=lp g->p2.ownBlock≠lp g
 g1:gN<=s1
 g2:gN<=s2
 ne:s1≠s2
 os:w.heap[Cp]? = lp (ye #[om (lp ⟨svb,0,od⟩)] 68)
def Dh(gN:Nat)(w w':qq):Prop:=∀(j:Nat) (ob:Obj),w.heap[j]? = lp ob->j<gN->w'.heap[j]? = lp ob
theorem Lw(P:Hc gN w pv){j:Nat}{ob:Obj}(h:w.heap[j]? = lp ob)(hk:kindOf ob≠lp 5):pv.ownBlock≠lp j:=fun e=>by
 obtain⟨c,h1⟩:=P.get e
 rw [h] at h1
 cases h1
 exact hk rfl
theorem Qb{cs:Array tj}(hb:w.heap[sb]? = lp (ye cs 75)){j:Nat}{ob:Obj}(h:w.heap[j]? = lp ob)(hk:kindOf ob≠lp 75):j≠sb:=fun e=>by
 subst e
 rw [h] at hb
 cases hb
 exact hk rfl
theorem After.keep(A:After Shun w sb n v o pv R w' Sh Bs J u u' i)(Kx:Ar u u' X){j:Nat}{ob:Obj}(h:w.heap[j]? = lp ob)(h1:kindOf ob=lp 115->¬F6 Shun j)(h2:j≠sb)(h3:pv.ownBlock≠lp j)(h4:¬X j):w'.heap[j]? = lp ob:=by
 obtain⟨b1,b2⟩:=A.old j ob h h1 h2 h3
 have b3:=(Kx.block j (Ax b1) h4).trans b1
 exact(A.new j (Ax b3) b2).trans b3
theorem After.low(A:After Shun w sb n v o pv R w' Sh Bs J u u' i)(Kx:Ar u u' X)(B:Base Tabs gN Shun w)(hX:∀j,X j->gN<=j)(gs:gN<=sb)(gp:∀g,pv.ownBlock=lp g->gN<=g){j:Nat}(hj:j<gN):w'.heap[j]? = w.heap[j]?:=by
 have Di:=B.sz
 have hl:j<w.heap.size:=Ab
 have e:w.heap[j]? = lp w.heap[j]:=aZ hl
 rw [e]
 refine A.keep Kx e (fun _=>B.nb hj) Ab (fun h=>?_) fun h=>?_
 ·have:=gp j h;omega
 ·have:=hX j h;omega
theorem After.base(A:After Shun w sb n v o pv R w' Sh Bs J u u' i)(Kx:Ar u u' X)(B:Base Tabs gN Shun w)(hX:∀j,X j->gN<=j)(gs:gN<=sb)(gp:∀g,pv.ownBlock=lp g->gN<=g):Base Tabs gN Sh w':=by
 have Di:=B.sz
 have hsz':w.heap.size<=w'.heap.size:=aE A.sz (aE Kx.size A.same)
 refine⟨A.nf,A.shun,fun z hz hs=>B.G z (fun j hj=>(hz j hj).trans (A.low Kx B hX gs gp hj)) hs,Ab,B.g8,fun a ha=>(A.shl a ha).elim (B.low a) fun h=>Ab⟩
theorem After.srv(A:After Shun w sb n v o pv R w' Sh Bs J u u' i)(S:Qr Bs gN u' svb D K tb mb wm sm s1 s2 lg last num ns ks):Qr (F6 Sh) gN w' svb D K tb mb wm sm s1 s2 lg last num ns ks:=
 S.turn fun j ob h1 h2 h3=>by
  have:=(A.new j (Ax h2) h1).trans h2
  exact⟨this,Jm A.shun this h3.2.2⟩
theorem Wl{w0 wf:qq}{x:tj}(S:Qr (F6 Shun) gN w svb D K tb mb wm sm s1 s2 lg last num ns ks)(hS:Bf Shun w)(E:Jx w sb bb off n (gf vp) v (gf vp) o pv hd body)(P:Hc gN w pv)(hP:PV w (boxes svb sb) w0)(hf:Found w0 wf u Shun sb n (gf vp) v (gf vp) o pv hd body i x) :
  Qr (M4 Shun w0.heap.size sb) gN u svb D K tb mb wm sm s1 s2 lg last num ns ks:=
 S.turn fun j ob h1 h2 h3=>DR hS E hP hf h2 (fun hk=>absurd hk h3.2.2) (Qb E.blk h2 h3.1) (Lw P h2 h3.2.1)
theorem Of{k:Int}{s:Nat}(hk:(k=1/\s=s1)∨(k=2/\s=s2)){z:qq}(h:Bm ly 3 z sm (Fp [(1,s1),(2,s2)])):(ry 82 (.map (lp sm)) (rl tz k) vp).run ly z=.ok (om (lp ⟨s,0,od⟩)) z:=by
 rcases hk with⟨rfl,rfl⟩|⟨rfl,rfl⟩
 ·exact Bm.look_some vp h CW underlying82 (kl:=.int .i64 1) Aa (v:=om (lp ⟨s,0,od⟩)) (by simp [Fp])
 ·exact Bm.look_some vp h CW underlying82 (kl:=.int .i64 2) Aa (v:=om (lp ⟨s,0,od⟩)) (by simp [Fp])
def RX(gN svb D K tb mb wm sm s1 s2:Nat)(lg:Option (Nat×Nat))(last num:Int)(ns:List (ByteArray×Nd))(ks:List tj)(pa:ByteArray)(Bs:Nat->Prop)(u u':qq):Prop:=
 ∃p,u.heap[s2]? = lp (ye (Bl (rl tz 2) p (gf vp) (rl tz 1) (gf vp) (cf od 0 0)) 75)/\Qr Bs gN u svb D K tb mb wm sm s1 s2 lg last num ns ks/\LJ Bs u u' wm s2 p (gf vp) (gf vp) pa
theorem WB(pa:ByteArray):Pf s2 (rl tz 2) (rl tz 1) (cf od 0 0) (RX gN svb D K tb mb wm sm s1 s2 lg last num ns ks pa):=by
 refine⟨fun Bs u u' d h=>?_,fun Bs u u' h=>?_,fun Bs u u' p h hb=>?_,fun Bs u u' j ob t h hk ht hj=>?_⟩
 ·obtain⟨p,h1,h2,h3,h4,h5⟩:=h
  exact⟨p,h1,h2,h3.at d,h4,Bm.of_block h5 rfl⟩
 ·obtain⟨p,h1,h2,h3,h4,h5⟩:=h
  exact⟨h3.os,h3.output⟩
 ·obtain⟨p',h1,h2,h3,⟨l,hl,ov,h4,h6⟩,h5⟩:=h
  rw [h1] at hb
  simp only [aL,qi,Bl,dL,bV,and_true,true_and] at hb
  rw [←hb]
  exact⟨_,_,h4⟩
 ·obtain⟨p',h1,h2,h3,h4,h5⟩:=h
  refine(h3.block j (Ax hj) ?_).trans hj
  rintro(rfl|rfl)
  ·rw [h1] at hj
   cases hj
   simp [kindOf] at hk
   subst hk
   simp at ht
  ·obtain⟨es,ck,h6⟩:=Bm.obj h2.hw
   rw [h6] at hj
   cases hj
   cases hk
theorem TD(U:Jk valid Tabs)(h:W2 Tabs gN Shun w Cp svb D K tb mb wm sm s1 s2 lg last num ns ks p1 (cf od 0 0) p2 (cf od 0 0))(mk:Int)(hm1:0<=mk)(hm2:mk<=2147483647)(pa:ByteArray)(hpa:Hq pa=s7)(hps:pa.size<=200)(hpv:valid pa=s7)(hks:ks = []∨ks = [Dw 2 pa 0])(F:WR w bb off hd (be 5 4++(be mk 4++(fld pa++(be 1 1 ++ [])))))(Cu:p2.ownBlock≠lp bb)(Ea:(hd++(be 5 4++(be mk 4++(fld pa++(be 1 1 ++ []))))).length<=bcap) :
  De ly Post 9 #[om (lp ⟨Cp,0,od⟩),rl tz 2,cf (lp ⟨bb,off,od⟩) (hd++(be 5 4++(be mk 4++(fld pa++(be 1 1 ++ []))))).length bcap] Shun w fun val w' Sh=>val=rl tz 0/\Dh gN w w'/\w.heap.size<=w'.heap.size /\
   ∃p2' ov l,20<=List.length l/\W2 Tabs gN Sh w' Cp svb D K tb mb wm sm s1 s2 lg last num ns [Dw 2 pa 0] p1 (cf od 0 0) p2' ov/\w'.ownsRow w.heap.size 5 1 ov l.length (A0 l):=by
 have S0:=h.B.S
 have hv:=h.srv.hv
 have I:=Rb h.B hv h.b2 h.g2 h.r2 F Cu
 obtain⟨es,ck,hsm⟩:=h.srv.hm.obj
 have HT:∀w0 wf u i x Stop,PV w (boxes svb s2) w0->Found w0 wf u Shun s2 (rl tz 2) (gf vp) (rl tz 1) (gf vp) (cf od 0 0) p2 hd (be 5 4++(be mk 4++(fld pa++(be 1 1 ++ [])))) i x->Cx Tabs gN (Vz Shun w0.heap.size s2) (M4 Shun w0.heap.size s2) u->KZ (M4 Shun w0.heap.size s2) u x (be 5 4++(be mk 4++(fld pa++(be 1 1 ++ [])))) ->
   Bz ly s7 (Vz Shun w0.heap.size s2) Stop 36 #[om (lp ⟨svb,0,od⟩),om (lp ⟨s2,0,od⟩),x] u fun r u'=>r=fh #[]/\RX gN svb D K tb mb wm sm s1 s2 lg last num ns ks pa (M4 Shun w0.heap.size s2) u u':=fun w0 wf u i x Stop hP hf C hB=>by
  have E0:=I.each.onP hP (by simp [boxes,B7])
  have hl:=Ax E0.blk
  have j0:=Kr (S0.onP hP) hl E0.blk (k:=0) Ad
  have j3:=Kr (S0.onP hP) hl E0.blk (k:=3) Ad
  have j5:=Kr (S0.onP hP) hl E0.blk (k:=5) Ad
  have SV:=Wl h.srv S0 I.each h.r2 hP hf
  refine WC C s2 (om (lp ⟨svb,0,od⟩)) (rl tz 2) _ (gf vp) (gf vp) x hf.blk j3 5 mk pa ⟨#[]⟩ ⟨#[]⟩ 0 s7 (fun L hL=>?_) (RX gN svb D K tb mb wm sm s1 s2 lg last num ns ks pa (M4 Shun w0.heap.size s2) u) (fun u2 K2 W2'=>?_)
  ·have gl:=C.glob hL
   exact DW U L gl.tabs gl.table (by have:=gl.size;have:=h.B.g8;omega) mk hm1 hm2 pa hps hpv x gl.rq5 (hB.sim C.W.nf hL)
  ·refine Dm (Aaf U (C.kx K2 W2' fun _ h=>h.elim) (SV.kf K2) _ (gf vp) (gf vp) (K2.get hf.blk id) h.g2 j0 j3 j5 mk Ab hm2 pa ⟨#[]⟩ ⟨#[]⟩ 0 hpa Ab hks) ?_
   rintro r u' ⟨a1,a2,a3,⟨l,hl,a4⟩,a5⟩
   exact⟨a1,_,hf.blk,SV,(K2.mono fun _ h=>h.elim).trans a3,⟨l,hl,a4.lower K2.size⟩,a5⟩
 refine D6 (NN (Post:=Post) (bcap:=bcap) I Ea (WB (lg:=lg) (num:=num) (ns:=ns) (ks:=ks) (K:=K) (mb:=mb) (s1:=s1) (gN:=gN) (svb:=svb) (D:=D) (tb:=tb) (wm:=wm) (sm:=sm) (last:=last) pa) HT 2 hsm (fun z hz=>Of (o5 ⟨rfl,rfl⟩) (h.srv.hm.of_block hz)) Cp h.os rfl Ad) ?_
 rintro val w' Sh ⟨rfl,hout⟩
 obtain⟨Bs,J,u,u',i,A⟩:=after S0 I.each (WB pa) hout
 obtain⟨p,f1,SV,Kx,⟨l,hl,ov,f2,f3⟩,f4⟩:=A.r
 have o2:=SV.off f1
 have Di:w.heap.size<=w'.heap.size:=aE A.sz (aE Kx.size A.same)
 have SV':Qr Bs gN u' svb D K tb mb wm sm s1 s2 lg last num ns [Dw 2 pa 0]:=by
  have nW:∀{j:Nat} {c:Array tj} {t:s8},u.heap[j]? = lp (ye c t)->j≠s2->¬(j=s2∨j=wm):=fun hc hn=>by
   rintro(e|e)
   ·exact hn e
   ·exact Fz SV.hw hc e.symm
  have hd:Jj Bs u' D K lg:=by
   refine SV.hd.kx Kx (nW SV.hd.dsk o2.d) ?_ ?_
   ·have:=SV.hd.st
    cases lg with
    | none=>exact nW this o2.k
    | some q=>obtain⟨_,_,_,_,g1,_⟩:=this;exact nW g1 o2.k
   ·rintro q rfl
    obtain⟨_,_,_,_,_,g1,_⟩:=SV.hd.st
    exact nW g1 (o2.g q rfl)
  exact⟨Kx.get SV.hv (nW SV.hv o2.v),SV.ht.kx Kx (nW SV.ht.blk o2.t) (by rintro(e|e);exact o2.m e;exact SV.wmb e.symm),SV.tk,f4,SV.hm.of_block (Kx.block _ SV.hm.lt (by rintro(e|e);exact o2.s e;exact SV.wsm e.symm)),hd,SV.nv,SV.nt,SV.nm,SV.nw,SV.nsm,SV.gv,SV.gt,SV.gm,SV.gw,SV.gK,SV.gg,SV.wmb,SV.wsm,SV.mbs⟩
 have kp:∀{j:Nat} {c:Array tj} {t:s8} {fz:Nat×Nat},w.heap[j]? = lp (ye c t fz)->t≠115->j≠s2->p2.ownBlock≠lp j->w'.heap[j]? = lp (ye c t fz):=fun {j c t fz} a1 a2 a3 a4=>A.keep Kx a1 (fun hk=>absurd hk (by simpa [kindOf] using a2)) a3 a4 (by
  rintro(e|e)
  ·exact a3 e
  ·obtain⟨b1,_⟩:=A.old j _ a1 (fun hk=>absurd hk (by simpa [kindOf] using a2)) a3 a4
   exact Fz SV.hw b1 e.symm)
 refine⟨rfl,fun j ob a1 a2=>?_,Di,_,ov,l,hl,⟨A.base Kx h.B (by rintro j (rfl|rfl);exact h.g2;exact h.srv.gw) h.g2 h.r2.low,A.srv SV',?_,A.blk _ _ _ _ _ _ f2,?_,⟨A.own,?_⟩,?_,h.g1,h.g2,h.ne,?_⟩,Df (D8 f3 fun g hg hl=>A.new g hl (A.fresh g hg)) A.sz⟩
 ·exact(A.low Kx h.B (by rintro j (rfl|rfl);exact h.g2;exact h.srv.gw) h.g2 h.r2.low a2).trans a1
 ·exact kp h.b1 Ad h.ne (Lw h.r2 h.b1 (by simp [kindOf]))
 ·exact h.r1.keep fun g c hg hc=>kp hc Ad (fun e=>by subst e;rw [h.b2] at hc;simp at hc) (h.dis g hg)
 ·intro g hg
  obtain rfl:i.1=g:=by simpa [qb] using hg
  rcases A.part with hp|hp
  ·exact h.r2.low _ hp
  ·have:=h.B.sz;omega
 ·intro g hg hg'
  obtain rfl:i.1=g:=by simpa [qb] using hg'
  rcases A.part with hp|hp
  ·exact h.dis _ hg hp
  ·obtain⟨c,hc⟩:=h.r1.get hg
   have:=Ax hc
   omega
 ·exact kp h.os Ad (Qb h.b2 h.os (by simp [kindOf])) (Lw h.r2 h.os (by simp [kindOf]))
end
section
variable {Post:Da} {valid:ByteArray->Bool} {Tabs:qq->Prop} {gN:Nat} {Shun Sh:Loc->Prop} {Bs Bs':Nat->Prop} {J:Loc->Prop} {w w' u u':qq} {Cp svb sb bb off bcap D K tb mb wm sm s1 s2:Nat} {lg:Option (Nat×Nat)} {last num:Int} {ns:List (ByteArray×Nd)} {ks:List tj} {n v o pv p1 o1 p2 o2:tj} {hd body:List UInt8} {i:Nat×Nat} {X:Nat->Prop}
def RC(gN svb D K tb mb wm sm s1 s2:Nat)(lg:Option (Nat×Nat))(last num:Int)(ns:List (ByteArray×Nd))(ks:List tj)(kind:Nat)(pa:ByteArray)(Bs:Nat->Prop)(u u':qq):Prop:=
 ∃p1 p2,u.heap[s1]? = lp (ye (Bl (rl tz 1) p1 (gf vp) (rl tz 1) (gf vp) (cf od 0 0)) 75)/\u.heap[s2]? = lp (ye (Bl (rl tz 2) p2 (gf vp) (rl tz 1) (gf vp) (cf od 0 0)) 75)/\Qr Bs gN u svb D K tb mb wm sm s1 s2 lg last num ns ks /\
  ((∃l:List UInt8,20<=l.length/\Told u u' s1 (rl tz 1) p1 (gf vp) (rl tz 1) (gf vp) l)∨R0 Bs gN u u' svb D K tb mb wm sm s1 s2 lg last num ks p1 (gf vp) (gf vp) (rl tz 2) p2 (gf vp) (rl tz 1) (gf vp) kind pa)
def CX(K tb mb wm s1 s2:Nat)(lg:Option (Nat×Nat))(i:Nat):Prop:=i=tb∨i=mb∨DX K lg i∨i=s1∨i=s2∨i=wm
theorem RC.kept{kind:Nat}{pa:ByteArray}(h:RC gN svb D K tb mb wm sm s1 s2 lg last num ns ks kind pa Bs u u'):Ar u u' (CX K tb mb wm s1 s2 lg):=by
 obtain⟨p1,p2,h1,h2,S,⟨l,hl,T⟩|Dn⟩:=h
 ·exact T.kept.mono fun _ e=>o5 (o5 (o5 (.inl e)))
 ·exact Dn.kept
theorem MX{kind:Nat}{pa:ByteArray}(h:RC gN svb D K tb mb wm sm s1 s2 lg last num ns ks kind pa Bs u u'){j t:Nat}{ob:Obj}(hj:u.heap[j]? = lp ob)(hk:kindOf ob=lp t)(ht:t≠75/\t≠94/\t≠52/\t≠190):¬CX K tb mb wm s1 s2 lg j:=by
 obtain⟨p1,p2,h1,h2,S,_⟩:=h
 have cl:∀{b t':Nat} {c:Array tj},u.heap[b]? = lp (ye c t')->t≠t'->j≠b:=fun hb Cu e=>by
  subst e
  rw [hj] at hb
  cases hb
  exact Cu (aC hk).symm
 have mp:∀{k:s8} {b:Nat} {m:List (tj×tj)},Bm ly k u b m->j≠b:=fun hb e=>by
  obtain⟨es,ck,h⟩:=hb.obj
  subst e
  rw [hj] at h
  cases h
  cases hk
 have Dk:=S.hd.st
 rintro(e|e|(e|⟨q,rfl,e⟩)|e|e|e)
 ·exact cl S.ht.blk ht.2.1 e
 ·exact mp S.ht.map e
 ·cases lg with
  | none=>exact cl Dk ht.2.2.1 e
  | some q=>obtain⟨_,_,_,_,g1,_⟩:=Dk;exact cl g1 ht.2.2.1 e
 ·obtain⟨_,_,_,_,_,g1,_⟩:=Dk
  exact cl g1 ht.2.2.2 e
 ·exact cl h1 ht.1 e
 ·exact cl h2 ht.1 e
 ·exact mp S.hw e
theorem VZ(kind:Nat)(pa:ByteArray):Pf s1 (rl tz 1) (rl tz 1) (cf od 0 0) (RC gN svb D K tb mb wm sm s1 s2 lg last num ns ks kind pa):=by
 refine⟨fun Bs u u' d h=>?_,fun Bs u u' h=>⟨h.kept.os,h.kept.output⟩,fun Bs u u' p h hb=>?_,fun Bs u u' j ob t h hk ht hj=>(h.kept.block j (Ax hj) (MX h hj hk ?_)).trans hj⟩
 ·obtain⟨p1,p2,h1,h2,S,⟨l,hl,T⟩|Dn⟩:=h
  ·obtain⟨ov,a1,a2⟩:=T.out
   exact⟨p1,p2,h1,h2,S,.inl ⟨l,hl,T.kept.at d,ov,a1,a2⟩⟩
  ·exact⟨p1,p2,h1,h2,S,o5 (Dn.at d)⟩
 ·obtain⟨p1,p2,h1,h2,S,hr⟩:=h
  rw [h1] at hb
  simp only [aL,qi,Bl,dL,bV,and_true,true_and] at hb
  rw [←hb]
  rcases hr with⟨l,hl,T⟩|Dn
  ·obtain⟨ov,a1,a2⟩:=T.out
   exact⟨_,_,a1⟩
  ·obtain⟨l,hl,ov,a1,a2⟩:=Dn.out
   exact⟨_,_,a1⟩
 ·rcases ht with rfl|rfl|rfl|rfl <;> decide
theorem SL(U:Jk valid Tabs)(h:W2 Tabs gN Shun w Cp svb D K tb mb wm sm s1 s2 lg last num ns ks p1 (cf od 0 0) p2 (cf od 0 0))(kind:Nat)(hk:kind=1∨kind=2∨kind=3)(mk:Int)(hm1:0<=mk)(hm2:mk<=2147483647)(pa d:ByteArray)(ver:Int)(hpa:Hq pa=s7)(hsl:Dj pa=s7)(hps:pa.size<=200)(hpv:valid pa=s7)(hd40:d.size<=40)(hev:valid ⟨#[]⟩=s7)(hks:ks = []∨∃P0,ks = [Dw 2 P0 0])(Di:M7 lg<=8000000000000000000)(hnum:num+1<9223372036854775807)(HR:∀L,Yn Tabs gN L->∀x,Gz L x body->Calls ly 52 #[rl tz 1,x] L fun e w'=>e=pd (fh #[Mv kind mk pa d ⟨#[]⟩ ver vp,gf s7])/\Below L.heap.size L w')(F:WR w bb off hd body)(Cu:p1.ownBlock≠lp bb)(Ea:(hd++body).length<=bcap) :
  De ly Post 9 #[om (lp ⟨Cp,0,od⟩),rl tz 1,cf (lp ⟨bb,off,od⟩) (hd++body).length bcap] Shun w fun val w' Sh=>val=rl tz 0/\Dh gN w w'/\w.heap.size<=w'.heap.size /\
   ∃p1' ov l,20<=List.length l/\w'.ownsRow w.heap.size 5 1 ov l.length (A0 l)/\(W2 Tabs gN Sh w' Cp svb D K tb mb wm sm s1 s2 lg last num ns ks p1' ov p2 (cf od 0 0) ∨
    ∃lg' ns' ks' ov2,M7 lg'<=M7 lg+1000/\W2 Tabs gN Sh w' Cp svb D K tb mb wm sm s1 s2 lg' last (num+1) ns' ks' p1' ov p2 ov2/\((ks≠[Dw 2 pa 0]/\ks'=ks/\ov2=cf od 0 0)∨(ks = [Dw 2 pa 0]/\ks' = []/\w'.ownsRow w.heap.size 5 1 ov2 (BC (num+1) kind pa).length (A0 (BC (num+1) kind pa))))):=by
 have S0:=h.B.S
 have hv:=h.srv.hv
 have I:=Rb h.B hv h.b1 h.g1 h.r1 F Cu
 obtain⟨es,ck,hsm⟩:=h.srv.hm.obj
 have HT:∀w0 wf u i x Stop,PV w (boxes svb s1) w0->Found w0 wf u Shun s1 (rl tz 1) (gf vp) (rl tz 1) (gf vp) (cf od 0 0) p1 hd body i x->Cx Tabs gN (Vz Shun w0.heap.size s1) (M4 Shun w0.heap.size s1) u->KZ (M4 Shun w0.heap.size s1) u x body ->
   Bz ly s7 (Vz Shun w0.heap.size s1) Stop 36 #[om (lp ⟨svb,0,od⟩),om (lp ⟨s1,0,od⟩),x] u fun r u'=>r=fh #[]/\RC gN svb D K tb mb wm sm s1 s2 lg last num ns ks kind pa (M4 Shun w0.heap.size s1) u u':=fun w0 wf u i x Stop hP hf C hB=>by
  have E0:=I.each.onP hP (by simp [boxes,B7])
  have hl:=Ax E0.blk
  have j3:=Kr (S0.onP hP) hl E0.blk (k:=3) Ad
  have j5:=Kr (S0.onP hP) hl E0.blk (k:=5) Ad
  have SV:=Wl h.srv S0 I.each h.r1 hP hf
  have np2:p1.ownBlock≠lp s2:=Lw h.r1 h.b2 (by simp [kindOf])
  obtain⟨g2u,n2u⟩:=DR S0 I.each hP hf h.b2 (by simp [kindOf]) h.ne.symm np2
  have j25:¬Vz Shun w0.heap.size s1 (.cell ⟨s2,5,od⟩):=fun hj=>n2u (C.W.ji.cell _ hj)
  refine WC C s1 (om (lp ⟨svb,0,od⟩)) (rl tz 1) _ (gf vp) (gf vp) x hf.blk j3 kind mk pa d ⟨#[]⟩ ver vp (fun L hL=>HR L (C.glob hL) x (hB.sim C.W.nf hL)) (RC gN svb D K tb mb wm sm s1 s2 lg last num ns ks kind pa (M4 Shun w0.heap.size s1) u) (fun u2 K2 W2'=>?_)
  refine Dm (Aae U (C.kx K2 W2' fun _ h=>h.elim) (SV.kf K2) _ (gf vp) (gf vp) _ _ (gf vp) _ (gf vp) (K2.get hf.blk id) (K2.get g2u id) h.ne h.g1 h.g2 j3 j5 j25 kind hk mk Ab hm2 pa d ⟨#[]⟩ ver vp hps hpv hpa hsl hd40 Ad hev hks Di hnum) ?_
  rintro r u' ⟨a1,a2,Gr⟩
  exact⟨a1,_,_,hf.blk,g2u,SV,Gr.imp (fun⟨l,hl,T⟩=>⟨l,hl,T.from K2⟩) fun Dn=>Dn.from K2 (Ax g2u)⟩
 refine D6 (NN (Post:=Post) (bcap:=bcap) I Ea (VZ (lg:=lg) (num:=num) (ns:=ns) (ks:=ks) (K:=K) (mb:=mb) (s2:=s2) (gN:=gN) (svb:=svb) (D:=D) (tb:=tb) (wm:=wm) (sm:=sm) (last:=last) kind pa) HT 1 hsm (fun z hz=>Of (.inl ⟨rfl,rfl⟩) (h.srv.hm.of_block hz)) Cp h.os rfl Ad) ?_
 rintro val w' Sh ⟨rfl,hout⟩
 obtain⟨Bs,J,u,u',i,A⟩:=after S0 I.each (VZ kind pa) hout
 have hr:=A.r
 have Kx:=hr.kept
 obtain⟨q1,q2,f1,f2,SV,Gr⟩:=A.r
 have Di:w.heap.size<=w'.heap.size:=aE A.sz (aE Kx.size A.same)
 have kp:∀{j:Nat} {c:Array tj} {t:s8} {fz:Nat×Nat},w.heap[j]? = lp (ye c t fz)->t≠115->t≠75/\t≠94/\t≠52/\t≠190->p1.ownBlock≠lp j->w'.heap[j]? = lp (ye c t fz):=fun {j c t fz} a1 a2 a3 a4=>by
  have a5:j≠s1:=Qb h.b1 a1 (by simpa [kindOf] using a3.1)
  obtain⟨b1,_⟩:=A.old j _ a1 (fun hk=>absurd hk (by simpa [kindOf] using a2)) a5 a4
  exact A.keep Kx a1 (fun hk=>absurd hk (by simpa [kindOf] using a2)) a5 a4 (MX hr b1 rfl a3)
 have hX:∀j,CX K tb mb wm s1 s2 lg j->gN<=j:=by
  rintro j (rfl|rfl|(rfl|⟨q,hq,rfl⟩)|rfl|rfl|rfl)
  ·exact h.srv.gt
  ·exact h.srv.gm
  ·exact h.srv.gK
  ·exact h.srv.gg q hq
  ·exact h.g1
  ·exact h.g2
  ·exact h.srv.gw
 have BB:=A.base Kx h.B hX h.g1 h.r1.low
 have P1:Hc gN w' (cf (lp ⟨i.1,0,od⟩) 0 i.2):=⟨A.own,fun g hg=>by
  obtain rfl:i.1=g:=by simpa [qb] using hg
  rcases A.part with hp|hp
  ·exact h.r1.low _ hp
  ·have:=h.B.sz;omega⟩
 have P2:Hc gN w' p2:=h.r2.keep fun g c hg hc=>kp hc Ad Ad (fun e=>h.dis g e hg)
 have hdis:∀g,(Value.slice (lp ⟨i.1,0,od⟩) 0 i.2).ownBlock=lp g->p2.ownBlock≠lp g:=fun g hg hg'=>by
  obtain rfl:i.1=g:=by simpa [qb] using hg
  rcases A.part with hp|hp
  ·exact h.dis _ hp hg'
  ·obtain⟨c,hc⟩:=h.r2.get hg'
   have:=Ax hc
   omega
 have hos:=kp h.os Ad Ad (Lw h.r1 h.os (by simp [kindOf]))
 have k42:Dh gN w w':=fun j ob a1 a2=>(A.low Kx h.B hX h.g1 h.r1.low a2).trans a1
 have np2:p1.ownBlock≠lp s2:=Lw h.r1 h.b2 (by simp [kindOf])
 obtain⟨g2u,n2u⟩:=A.old s2 _ h.b2 (by simp [kindOf]) h.ne.symm np2
 rcases Gr with⟨l,hl,T⟩|Dn
 ·obtain⟨ov,a1,a2⟩:=T.out
  refine⟨rfl,k42,Di,_,ov,l,hl,Df (D8 a2 fun g hg hl=>A.new g hl (A.fresh g hg)) A.sz,.inl ⟨BB,A.srv ?_,A.blk _ _ _ _ _ _ a1,?_,P1,P2,hdis,h.g1,h.g2,h.ne,hos⟩⟩
  ·have o1:=SV.off f1
   exact SV.kx T.kept o1.v o1.t o1.m o1.w o1.s o1.d o1.k o1.g
  ·exact A.keep T.kept h.b2 (by simp [kindOf]) h.ne.symm np2 h.ne.symm
 ·obtain⟨⟨lg',ns',ks',a1,a2,a3⟩,a4,l,hl,ov,a5,a6⟩:=Dn
  have b2':∃ov2,w'.heap[s2]? = lp (ye (Bl (rl tz 2) p2 (gf vp) (rl tz 1) (gf vp) ov2) 75)/\((ks≠[Dw 2 pa 0]/\ks'=ks/\ov2=cf od 0 0)∨(ks = [Dw 2 pa 0]/\ks' = []/\w'.ownsRow w.heap.size 5 1 ov2 (BC (num+1) kind pa).length (A0 (BC (num+1) kind pa)))):=by
   have e2:q2=p2:=by
    rw [f2] at g2u
    simp only [aL,qi,Bl,dL,bV,and_true,true_and] at g2u
    exact g2u
   subst e2
   rcases a3 with⟨c1,c2,c3⟩|⟨c1,c2,ov2,c3,c4⟩
   ·exact⟨_,(A.new s2 (by have:=Ax f2;have:=Kx.size;omega) n2u).trans (c3.trans f2),.inl ⟨c1,c2,rfl⟩⟩
   ·exact⟨ov2,(A.new s2 (Ax c3) n2u).trans c3,o5 ⟨c1,c2,Df (D8 c4 fun g hg hl=>A.new g hl (A.fresh g hg)) A.sz⟩⟩
  obtain⟨ov2,d1,d2⟩:=b2'
  exact⟨rfl,k42,Di,_,ov,l,hl,Df (D8 a6 fun g hg hl=>A.new g hl (A.fresh g hg)) A.sz,o5 ⟨lg',ns',ks',ov2,a2,⟨BB,A.srv a1,A.blk _ _ _ _ _ _ a5,d1,P1,P2,hdis,h.g1,h.g2,h.ne,hos⟩,d2⟩⟩
end
end Go.Proofs.YtjoblhlkfmeckaaGreatDoor

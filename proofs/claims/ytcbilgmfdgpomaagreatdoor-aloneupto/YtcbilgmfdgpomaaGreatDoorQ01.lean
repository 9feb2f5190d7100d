import Derived.Test.YtcbilgmfdgpomaaGreatDoorBase
import Derived.Conc.CrowdComm
import Derived.Conc.CrowdCom2
import Derived.Conc.FxGenAddNeg
import Derived.Conc.CompanyMem
import Derived.Conc.Holds
import Derived.JoinedCond
open List renaming length → iK
open Array renaming size → iL,size → F
set_option maxHeartbeats 4000000
set_option maxRecDepth 100000
set_option linter.all false
open Go renaming Goroutine → vr,World → gk,Value → uo,Trace → wv,Program → im,FuncId → x8,deafBehind → xz,TypeId → q9,HappensBefore → s9,Addr → m,mayWake → p8,runNT → n9,partners → sw,World → Z,Goroutine → T,Value → O
open Go.Conc renaming stepG_region_end → zr,stepG_seq → x,mem_ofEvents → py,Goes → o2,AtRel → z,Deaf_other → zl,served → mz,offersAt_of_not_blocked → re,stepG_skip → y8,touch_of → q8,atRel_refl → ig,touchAt → om,Deaf → vp,woken → p5,stepG_ret' → wc,parked → tz,rcase → vx,runT_crowd_go → uq,deafBehind_still → vi,Deaf_own → xh,hb_app → ju,noRace_append → l6,crowd → w7,woken_quitsD → wu,events_convert_to_unsafe → th,scase → gu,seen_app → mr,deaf_old → rp,heard_old → um,Goes → y
open Bool renaming true → km,false → sd
open Option renaming some → lj,none → jh
open Go.Trace renaming g? → h9
open Go.Conc.Goes renaming stop → ze,rely → yy
open Go.World renaming setCell → mu
open Go.ConcN renaming Deaf_still → p9
open Go.Conc.Lib renaming WgLink → mh
open Go.Value renaming int → uu,tuple → js
open Or renaming inl → r7,inr → kr
variable {B b i j n r s:Nat}{E R g h:T}{L:mh}{P:im}{Y:iA}{d e w:Z}{sm:Int}{t u:wv}{v:O}
def V9z{p:Prop}(h:p:=by
 rwa[aD Aa]at Z):p:=h
def A33{p:Prop}(h:p:=by
 have:=sumTo_upd q m id L;simpa[W] using this):p:=h
def Xx1{p:Prop}(h:p:=by
 rwa[aD Aa,aD Aa]at Z):p:=h
def L03{p:Prop}(h:p:=by
 subst R;rw[aQ Aav]at Z;obtain rfl:=aB Z
 rwa[upd_same,Deaf_own]):p:=h
def Kcn{p:Prop}(h:p:=by
 rw[aD Aa,aN]at Z;obtain⟨K,U,rfl⟩:=bB.1 Z
 rwa[woken_quitsD (H.old j K l o U)]):p:=h
def S29{p:Prop}(h:p:=by
 rcases getElem?_stand r 0 j x Z with⟨_,rfl⟩|⟨l,u⟩
 ·exact offersAt_ph _ _
 ·by_cases o:j=k
  ·subst o;rw[D]at u;obtain rfl:=aB u;exact offersAt_of_not_blocked ay _ _
  ·exact offersAt_of_not_blocked (H.notBlocked Aa o u) _ _):p:=h
def D3z{p:Prop}(h:p:=by
 simp only[Nq,MemAct.touch?,aT]at Z;subst Z;exact .inr (.inl ⟨⟨_,iI,iI⟩,Ad⟩)):p:=h
def D4c{p:Prop}(h:p:=by
 cases tb<;>simp[Jz]at i<;>(obtain⟨rfl,rfl⟩:=i;simp[Jz])):p:=h
def Vy7{p:Prop}(h:p:=by
 simp at E;rcases E with rfl|rfl
 ·exact .inl ⟨_,_,iI,iI⟩
 ·exact .inl ⟨_,_,iI,iI⟩):p:=h
def Scc{p:Prop}(h:p:=by
 simp[semEvents]at E;rcases E with rfl|rfl|rfl|rfl
 ·exact .inr (.inl iI)
 ·exact .inl ⟨_,_,iI,iI⟩
 ·exact .inl ⟨_,_,iI,iI⟩
 ·exact .inr (.inr (.inl iI))):p:=h
def K5n{p:Prop}(h:p:=by
 cases U<;>simp[Jz]at i<;>(obtain⟨rfl,rfl⟩:=i;simp[Jz])):p:=h
def Csy{p:Prop}(h:p:=by
 obtain⟨g,N,rfl⟩:=Conc.mem_ofEvents G;rw[touch_mute (u g N)]at Z;cases Z):p:=h
def Xi1{p:Prop}(h:p:=by
 have b:=k.trans M;exact⟨N+1,c,o,wf,u,Tg b H,by rwa[runN_succ_next b],y,z⟩):p:=h
def Dmt{p q:Prop}(k:q)(h:Hd q->p:=by
 intro kz;have E:=run_convert_to_unsafe (P:=C.P) H.27 H.32 H.112 (D9.cell0 p.2).choose_spec;have J:=λX=>events_convert_to_unsafe (P:=C.P) H.27 H.32 H.112 (D9.cell0 p.2).choose_spec X;go_simp;revert E J;exact kz.1):p:=h ⟨k⟩
def Fmx{p:Prop}(h:p:=by
 unfold Dx at h;simp[World.cell?,World.frozen?,JK,h]):p:=h
def Qr8{p:Prop}(h:p:=by
 u_none
 intro Y Q;have b:=mem_listed Q;simp[go_sem,J]at b):p:=h
def P7f{p:Prop}(h:p:=by
 refine⟨_,stepG_load_atomic iI iI (by k_ne) iI H.24 (x_loadU64_n L) (x_loadU64_b L) (x_loadU64_x L) .u64 (x_loadU64_f L) iI (e W).1,200,?_⟩;clear W;walk_nrm
 u_op Av p
 u_c stepG_region_end Av p
 u_c stepG_ret' Av p
 u_leave1 H.13 Av p
 u_op Av p
 u_c stepG_region_end Av p
 u_c stepG_seq Av p
 u_reg Av p
 u_op Av p
 u_op Av p
 u_op Av p
 u_op Av p
 u_c stepG_region_end Av p
 u_c stepG_seq Av p
 u_reg Av p
 u_op Av p
 u_op Av p
 u_op Av p
 u_op Av p
 u_c stepG_region_end Av p
 u_c stepG_seq Av p
 u_c stepG_seq Av p
 u_reg Av p
 u_op Av p
 u_op Av p
 u_c stepG_region_end Av p
 u_cond true Av p
 u_c stepG_seq Av p
 u_cond true Av p
 u_c stepG_seq Av p
 u_reg Av p
 refine Goes.stop (λd B=>?_);replace p:=Av p B;clear B;refine⟨iI,_,stepG_mark0 .enable Ad iI iI (by k_ne) iI H.6 (x_enable_n L) (x_enable_b L) (x_enable_x L) (x_enable_f L),50,?_⟩;walk_nrm
 u_c stepG_region_end Av p
 u_reg Av p
 u_op Av p
 u_in Av p
 refine goes_oper_k iI iI (by k_ne) (λN M=>?_);have E:=run_convert_to_unsafe (P:=C.P) H.27 H.32 H.112 (D9.cell0 p.2).choose_spec;have J:=λX=>events_convert_to_unsafe (P:=C.P) H.27 H.32 H.112 (D9.cell0 p.2).choose_spec X;go_simp;refine M _ _ ⟨?_,?_⟩
 ·u_none
  intro Y Q;have b:=mem_listed Q;simp[go_sem,J]at b
 clear M N E J;refine Goes.stop (λf F=>?_);replace p:=Av p F;clear F;refine⟨iI,_,stepG_markAt .acquire Ad iI iI (by k_ne) iI H.17 (x_acquire_n L) (x_acquire_b L) (x_acquire_x L) (x_acquire_f L) Agc,iI,m _ _ p iI ⟨60,?_⟩⟩;walk_nrm;have S:True:=trivial;clear p
 u_c stepG_region_end (fun(h:True) (_:AtRel _ _)=>h) S
 u_c stepG_seq (fun(h:True) (_:AtRel _ _)=>h) S
 u_c stepG_seq (fun(h:True) (_:AtRel _ _)=>h) S
 u_reg (fun(h:True) (_:AtRel _ _)=>h) S
 u_op (fun(h:True) (_:AtRel _ _)=>h) S
 u_op (fun(h:True) (_:AtRel _ _)=>h) S
 u_op (fun(h:True) (_:AtRel _ _)=>h) S
 u_op (fun(h:True) (_:AtRel _ _)=>h) S
 u_op (fun(h:True) (_:AtRel _ _)=>h) S
 u_op (fun(h:True) (_:AtRel _ _)=>h) S
 u_op (fun(h:True) (_:AtRel _ _)=>h) S
 u_op (fun(h:True) (_:AtRel _ _)=>h) S
 u_skip (fun(h:True) (_:AtRel _ _)=>h) S
 u_skip (fun(h:True) (_:AtRel _ _)=>h) S
 u_op (fun(h:True) (_:AtRel _ _)=>h) S
 u_c stepG_region_end (fun(h:True) (_:AtRel _ _)=>h) S
 u_cond false (fun(h:True) (_:AtRel _ _)=>h) S
 u_c stepG_skip (fun(h:True) (_:AtRel _ _)=>h) S
 u_c stepG_ret' (fun(h:True) (_:AtRel _ _)=>h) S
 u_leave0 H.3 (fun(h:True) (_:AtRel _ _)=>h) S
 exact Goes.stop (λ_ _=>rfl)):p:=h
namespace Go.Pair
variable {D:Z->Z->Array Event->Prop}{K:Nat->Obj->Prop}{X:Array Event}{cs:List Frame}{o:Obj}
open Go Go.Conc
section
variable {k:Bool} {R:Z->Z->Prop} {d:x8} {g:Array Oper} {Q:Exit->Act->Z->Prop} {M:Region.Mode} {S:gX} {C:Nat}
def CH{i:Oper}{f args m}{a:Act}{b}(c:i.op=.call { callee:=.value (.func f),args:=args,argTypes:=m })(h:∀d,b=lj d->d∉i.looksAt g):args.map (a.put b v).eval=args.map a.eval:=
 Array.map_congr_left λx k=>Act.eval_put λd j e=>h d j (by
  subst e;refine fC _ (List.mem_filterMap.2 ⟨.tmp d,?_,iI⟩);simp[c,Op.operands,Call.operands,k])
end
open Go.ConcN (sumTo upd sumTo_upd upd_ne upd_same)
structure Nu(P t)(gs:Array vr)(k)(q:Nat->Nat):Prop where
 old:∀i g,0<i->i≠k->gs[i]?=lj g->QuitsD P (q i) (vp t i) g
 above:∀j,gs.size<=j->vp t j=0
def StepA(P:im)(k:Nat)(a b:T)(w:Z)(t:wv)(K:T->T->Z->wv->Prop):Prop:=
 (∃a' w' es,stepG P km a w=.go a' w' es/\K a' (woken P a a' w' b) w' (t++MemOp.ofEvents 0 a.frame.fn a.frame.place es)) ∨
 (∃a₂ c z es s r tm,stepG P km a w=.comm a₂ #[vx c z] km (.recv km) w es/\w.1[c]?=lj (.chan 0 #[] sd s r tm)/\b.status≠.blocked /\
  K (tz a₂ #[vx c z] (.recv km)) b w (t++MemOp.ofEvents 0 a.frame.fn a.frame.place es)) ∨
 (∃a₂ c z es s r tm b₂ v z',stepG P km a w=.comm a₂ #[vx c z] km (.recv km) w es/\w.1[c]?=lj (.chan 0 #[] sd s r tm)/\b=tz b₂ #[gu c v z'] .send /\
  K (mz a₂ (js #[v,.bool km])) (mz b₂ undef) (w.setChan c 0 #[] sd (s+1) (r+1) tm) (t++(MemOp.ofEvents 0 a.frame.fn a.frame.place es ++
   #[{ g:=k,fn:=b₂.frame.fn,pos:=b₂.frame.place,act:=.send c s },{ g:=0,fn:=a₂.frame.fn,pos:=a₂.frame.place,act:=.recv c r 0 },
    {g:=k,fn:=b₂.frame.fn,pos:=b₂.frame.place,act:=.sendDone c s },{ g:=0,fn:=a₂.frame.fn,pos:=a₂.frame.place,act:=.recvDone c r }]))) ∨
 (∃a₂ c z es s r tm,stepG P km a w=.comm a₂ #[vx c z] km (.recv km) w es/\w.1[c]?=lj (.chan 0 #[] km s r tm)/\b.status≠.blocked /\
  K (mz a₂ (js #[z,.bool sd])) b w (t++(MemOp.ofEvents 0 a.frame.fn a.frame.place es++#[{ g:=0,fn:=a₂.frame.fn,pos:=a₂.frame.place,act:=.recvClosed c }])))
def StepB(P:im)(k:Nat)(a b:T)(w:Z)(t:wv)(K:T->T->Z->wv->Prop):Prop:=
 (∃b' w' es,stepG P sd b w=.go b' w' es/\K (woken P b b' w' a) b' w' (t++MemOp.ofEvents k b.frame.fn b.frame.place es)) ∨
 (∃b₂ c v z es s r tm,stepG P sd b w=.comm b₂ #[gu c v z] km .send w es/\w.1[c]?=lj (.chan 0 #[] sd s r tm)/\a.status≠.blocked /\
  K a (tz b₂ #[gu c v z] .send) w (t++MemOp.ofEvents k b.frame.fn b.frame.place es)) ∨
 (∃b₂ c v z es s r tm a₂ z',stepG P sd b w=.comm b₂ #[gu c v z] km .send w es/\w.1[c]?=lj (.chan 0 #[] sd s r tm)/\a=tz a₂ #[vx c z'] (.recv km) /\
  K (mz a₂ (js #[v,.bool km])) (mz b₂ undef) (w.setChan c 0 #[] sd (s+1) (r+1) tm) (t++(MemOp.ofEvents k b.frame.fn b.frame.place es ++
   #[{ g:=k,fn:=b₂.frame.fn,pos:=b₂.frame.place,act:=.send c s },{ g:=0,fn:=a₂.frame.fn,pos:=a₂.frame.place,act:=.recv c r 0 },
    {g:=k,fn:=b₂.frame.fn,pos:=b₂.frame.place,act:=.sendDone c s },{ g:=0,fn:=a₂.frame.fn,pos:=a₂.frame.place,act:=.recvDone c r }])))
section
variable {k:Nat} {r:Array T} {q:Nat->Nat}
def Nu.notBlocked(h:Nu P t r k q)(b:0<i)(d:i≠k)(c:r[i]?=lj g):g.status≠.blocked:=by
 intro e;rcases(h.old i g b d c).status with x|x<;>rw[x]at e<;>cases e
def Nu.app{a}(A:0<k)(h:Nu P t r k q)(B:∀c∈u,c.g=0∨c.g=k)(o:a.size=r.size)(w:k<r.size)(m:∀i g,0<i->i≠k->a[i]?=lj g->r[i]?=lj g):Nu P (t++u) a k q:=by
 have p:∀j,j≠0->j≠k->vp (t++u) j=vp t j:=by
  intro j f v;have y:∀(l:List MemOp),(∀c∈l,c.g=0∨c.g=k)->∀d,l.foldl (deafStep j) d=d:=by
   intro l
   induction l with
   |nil=>intros;rfl
   |cons C l z=>
    intro x d;rw[fK,z (λc n=>x c (by simp[n]))];unfold deafStep
    grind
  have:=Deaf_append t j u.toList;simp only[Array.toArray_toList]at this
  grind
 refine⟨λi g f b s=>?_,λj e=>?_⟩
 ·rw[p i Aa b];exact h.old i g f b (m i g f b s)
 ·rw[o]at e;rw[p j Aa Aa];exact h.2 j e
end
section
variable {k:Nat} {b:Type} {lt:b->b->Prop} {J:b->T->T->Z->wv->Prop} {Fin:T->T->Z->wv->Prop}
def B9{g u a b}(h:b∈MemOp.ofEvents g u a X):b.g=g:=by
 obtain⟨e,_,rfl⟩:=py h
 rfl
def Ad8(hk:0<k)(wf:WellFounded lt)(ba:∀c h a w t d,J c h a w t->J c h a (w.at d) t)(bb:∀h a w t d,Fin h a (w.at d) t->Fin h a w t)(bc:∀c h a w t i fn pos X,i≠0->i≠k->(∀bd∈X,Event.mute bd=km)->J c h a w t->J c h a w (t++MemOp.ofEvents i fn pos X))(bf:∀c h a w t g g',J c h a w t->∃p,J p (woken P g g' w h) (woken P g g' w a) w t)(bg:∀c h a w t,J c h a w t->awake h/\awake a/\(h.status=.running∨a.status=.running))(b5:∀c h a w t,J c h a w t->Fin h a w t∨((h.status=.running->StepA P k h a w t λe n B t'=>∃p,lt p c/\J p e n B t')/\(a.status=.running->StepB P k h a w t λe n B t'=>∃p,lt p c/\J p e n B t'))):∀aq c r h a w sl t (q:Nat->Nat),sumTo r.size q<=aq->r[0]?=lj h->r[k]?=lj a->Nu P t r k q->J c h a w t ->
   ∃a7 I e n B v t' q',
    n9 P a7 (w7 r w sl) t=(.next (w7 I B v),t')/\I.size=r.size/\I[0]?=lj e/\I[k]?=lj n/\Fin e n B t'/\Nu P t' I k q':=by
 intro aq
 induction aq using Nat.strongRecOn with
 |_ aq bh=>
 intro c
 induction c using wf.induction with
 |_ c bj=>
 intro r h a w sl t q hM F D H hJ;by_cases hF:Fin h a w t
 ·exact⟨0,r,h,a,w,sl,t,q,iI,iI,F,D,hF,H⟩
 obtain⟨bx,bz,bk⟩:=bg c h a w t hJ;have ai:0<r.size:=(aG.1 F).1;have C:k<r.size:=(aG.1 D).1;have bm:∀g∈r,awake g:=by
  intro g G;obtain⟨i,V,rfl⟩:=gE.1 G;rcases dN i with rfl|a1
  ·have:r[0]=h:=by simpa[aO V] using F
   rwa[this]
  ·by_cases a8:i=k
   ·subst a8;have:r[i]=a:=by simpa[aO V] using D
    rwa[this]
   ·exact awake_of ((H.old i _ a1 a8 (aO V)).status.elim r7 λx=>kr (kr x))
 obtain⟨i,g,d,v,V,G,S⟩:=crowd_pick (P:=P) (w:=w) (sl:=sl) bm (by
  rcases bk with aj|aj
  ·exact⟨0,h,F,aj⟩
  ·exact⟨k,a,D,aj⟩)
 have av:=ba c h a w t d hJ;have b6:¬Fin h a (w.at d) t:=λaj=>hF (bb _ _ _ _ d aj);have aa:∀I(e n:vr)B(ak:wv),stepT P (w7 r w sl)=(.next (w7 I B v),ak)->I.size=r.size->I[0]?=lj e->I[k]?=lj n->Nu P (t++ak) I k q->(∃p,lt p c/\J p e n B (t++ak)) ->
   ∃a7 N ad ae af al ab an,
    n9 P a7 (w7 r w sl) t=(.next (w7 N af al),ab)/\N.size=r.size/\N[0]?=lj ad/\N[k]?=lj ae/\Fin ad ae af ab/\Nu P ab N k an:=by
  intro I e n B ak A E bn bo bq ⟨p,L,aw⟩;obtain⟨a7,N,ad,ae,af,al,ab,an,hr,hz,x0,xb,xF,xO⟩:=bj p L I e n B v (t++ak) q (by rwa[E]) bn bo bq aw;exact⟨a7+1,N,ad,ae,af,al,ab,an,by simp only[n9,A];exact hr,hz.trans E,x0,xb,xF,xO⟩
 have own:∀g',(g'=0∨g'=k)->∀fn pos X,∀op∈MemOp.ofEvents g' fn pos X,op.g=0∨op.g=k:=λg' c6 fn pos X op f=>by rwa[B9 f]
 rcases dN i with rfl|a1
 ·
  obtain rfl:g=h:=by rw[F]at V;exact(aB V).symm
  rcases b5 c g a (w.at d) t av with ax|⟨br,_⟩
  ·exact absurd ax b6
  rcases br G with⟨e,B,X,A,y⟩|⟨a₂,z,Y,X,s,ar,tm,A,O,ay,y⟩|⟨a₂,z,Y,X,s,ar,tm,b₂,au,z',A,O,rfl,y⟩|⟨a₂,z,Y,X,s,ar,tm,A,O,ay,y⟩
  ·refine aa ((r.map (woken P g e B)).setIfInBounds 0 e) e (woken P g e B a) B _ (S.trans (uq (P:=P) (sl:=v) (i:=0) V (show stepG P (0==0) g (w.at d)=_ from A))) Ad (by simp[ai]) ?_ (H.app hk (own 0 (r7 iI) _ _ _) Ad C λj x l o Z=>?_) y
   ·rw[aD Aa,aN,D];rfl
   ·exact Kcn
  ·have Q:sw (r.setIfInBounds 0 ph) z km = []:=partners_nil λj x Z=>by
    exact S29
   refine aa (r.setIfInBounds 0 (tz a₂ #[vx z Y] (.recv km))) _ a (w.at d) _ (S.trans (crowd_waits (P:=P) (sl:=v) (i:=0) V (show stepG P (0==0) g (w.at d)=_ from A) λcc az=>?_)) Ad (by simp[ai]) ?_ (H.app hk (own 0 (r7 iI) _ _ _) Ad C λj x l o Z=>?_) y
   ·obtain rfl:cc=vx z Y:=by simpa using az
    exact ways_recv_none O Q
   ·rwa[aD Aa]
   ·exact V9z
  ·have Q:sw (r.setIfInBounds 0 ph) z km = [(k,0)]:=by
    rw[partners_one (stand_get Aa D) λj x l Z=>?_]
    ·simp[offersAt_parked_send]
    ·rcases getElem?_stand r 0 j x Z with⟨_,rfl⟩|⟨b7,u⟩
     ·exact offersAt_ph _ _
     ·exact re (H.notBlocked Aa l u) _ _
   refine aa _ _ _ _ _ (S.trans (crowd_recv_meets (P:=P) (sl:=v) (i:=0) (j:=k) V (show stepG P (0==0) g (w.at d)=_ from A) O Aa D Q)) Ad (by simp[ai];rfl) ?_ (H.app hk ?_ Ad C λj x l o Z=>?_) y
   ·rw[aD Aa,aQ C];rfl
   ·intro op f;rcases cC.1 f with f|f
    ·exact own 0 (r7 iI) _ _ _ op f
    ·simp at f;rcases f with rfl|rfl|rfl|rfl<;>simp
   ·exact Xx1
  ·have Q:sw (r.setIfInBounds 0 ph) z km = []:=partners_nil λj x Z=>by
    exact S29
   refine aa _ _ a (w.at d) _ (S.trans (crowd_recv_closed (P:=P) (sl:=v) (i:=0) V (show stepG P (0==0) g (w.at d)=_ from A) O Q)) Ad (by simp[ai];rfl) ?_ (H.app hk ?_ Ad C λj x l o Z=>?_) y
   ·rwa[aD Aa]
   ·intro op f;rcases cC.1 f with f|f
    ·exact own 0 (r7 iI) _ _ _ op f
    ·simp at f;rw[f];simp
   ·exact V9z
 ·by_cases a8:i=k
  ·
   subst a8;obtain rfl:g=a:=by rw[D]at V;exact(aB V).symm
   have a6:(i==0)=sd:=Ah;rcases b5 c h g (w.at d) t av with ax|⟨_,bu⟩
   ·exact absurd ax b6
   rcases bu G with⟨n,B,X,A,y⟩|⟨b₂,z,au,Y,X,s,ar,tm,A,O,bw,y⟩|⟨b₂,z,au,Y,X,s,ar,tm,a₂,z',A,O,rfl,y⟩
   ·refine aa ((r.map (woken P g n B)).setIfInBounds i n) (woken P g n B h) n B _ (S.trans (uq (P:=P) (sl:=v) (i:=i) V (by rwa[a6]))) Ad ?_ (by simp[C]) (H.app hk (own i (kr iI) _ _ _) Ad C λj x l o Z=>?_) y
    ·rw[aD Aa,aN,F];rfl
    ·exact Kcn
   ·have Q:sw (r.setIfInBounds i ph) z sd = []:=partners_nil λj x Z=>by
     rcases getElem?_stand r i j x Z with⟨_,rfl⟩|⟨l,u⟩
     ·exact offersAt_ph _ _
     ·rcases dN j with rfl|b7
      ·rw[F]at u;obtain rfl:=aB u;exact re bw _ _
      ·exact re (H.notBlocked b7 l u) _ _
    refine aa (r.setIfInBounds i (tz b₂ #[gu z au Y] .send)) h _ (w.at d) _ (S.trans (crowd_waits (P:=P) (sl:=v) (i:=i) V (by rwa[a6]) λcc az=>?_)) Ad ?_ (by simp[C]) (H.app hk (own i (kr iI) _ _ _) Ad C λj x l o Z=>?_) y
    ·obtain rfl:cc=gu z au Y:=by simpa using az
     exact ways_send_none O Ad Q
    ·rwa[aD Aa]
    ·exact V9z
   ·have Q:sw (r.setIfInBounds i ph) z sd = [(0,0)]:=by
     rw[partners_one (stand_get Aa F) λj x l Z=>?_]
     ·simp[offersAt_parked_recv]
     ·rcases getElem?_stand r i j x Z with⟨_,rfl⟩|⟨R,u⟩
      ·exact offersAt_ph _ _
      ·exact re (H.notBlocked Aa R u) _ _
    refine aa _ _ _ _ _ (S.trans (crowd_send_meets (P:=P) (sl:=v) (i:=i) (j:=0) V (by rwa[a6]) O Aa F Q)) Ad ?_ (by simp[C];rfl) (H.app hk ?_ Ad C λj x l o Z=>?_) y
    ·rw[aD Aa,aQ ai];rfl
    ·intro op f;rcases cC.1 f with f|f
     ·exact own i (kr iI) _ _ _ op f
     ·simp at f;rcases f with rfl|rfl|rfl|rfl<;>simp
    ·exact Xx1
  ·
   have T:=H.old i g a1 a8 V;have a6:(i==0)=sd:=Ah;have L:i<r.size:=(aG.1 V).1;cases W:q i with
   |zero=>rw[W]at T;rw[T.1]at G;cases G
   |succ m=>
    rw[W]at T;rcases T with⟨hf,_⟩|⟨_,g',X,hm,ao,b8⟩
    ·rw[hf]at G;cases G
    have M:=uq (P:=P) (sl:=v) (i:=i) V (by rw[a6];exact ao (w.at d));have E:((r.map (woken P g g' (w.at d))).setIfInBounds i g').size=r.size:=Ad;have b9:sumTo r.size (upd q i m)+(m+1)=sumTo r.size q+m:=by
     exact A33
    obtain⟨p,aw⟩:=bf c h a (w.at d) t g g' av;obtain⟨a7,N,ad,ae,af,al,ab,an,hr,hz,x0,xb,xF,xO⟩:=bh (sumTo r.size (upd q i m)) Aa p ((r.map (woken P g g' (w.at d))).setIfInBounds i g') (woken P g g' (w.at d) h) (woken P g g' (w.at d) a) (w.at d) v (t++MemOp.ofEvents i g.frame.fn g.frame.place X) (upd q i m) Af5
     (by rw[aD Aa,aN,F];rfl)
     (by rw[aD a8,aN,D];rfl)
     ⟨λj x l o Z=>by
      by_cases R:i=j
      ·exact L03
      ·rw[aD R,aN]at Z;obtain⟨K,U,rfl⟩:=bB.1 Z;have ah:=H.old j K l o U
       rwa[wu ah,upd_ne q m (dG R),zl t R _ Ang],λj l=>by
      rw[zl t (g':=i) (by simp at l;omega) _ Ang];exact H.2 j (by simpa using l)⟩ (bc p _ _ _ _ i g.frame.fn g.frame.place X Aa a8 hm aw)
    exact⟨a7+1,N,ad,ae,af,al,ab,an,by simp only[n9,S,M];exact hr,hz.trans E,x0,xb,xF,xO⟩
end
def Gw(Wg:Nat)(l:Loc):Prop:=∃a,l=.cell a/\a.block=Wg
def kindOf:Obj->Option q9
 |.cells _ e _=>lj e
 |_=>jh
structure Mx(w w':gk):Prop where
 size:iL w.1<=iL w'.1
 kind:∀(i:Nat)o,w.1[i]?=lj o->∃o',w'.1[i]?=lj o'/\kindOf o'=kindOf o
def Mx.refl(w):Mx w w:=⟨aC _,λi o h=>⟨o,h,iI⟩⟩
def Mx.at(w d):Mx w (w.at d):=⟨aC _,λi o h=>⟨o,h,iI⟩⟩
structure DJ(Shun:gW)(Wg Ch)(LA LB:gk->Loc->Bool->Prop):Prop where
 apart:∀w l x y,LA w l x->LB w l y->x=sd/\y=sd
 aOut:∀w l x,LA w l x->¬Gw Wg l/\l≠.obj Ch/\¬Shun l
 bOut:∀w l x,LB w l x->¬Gw Wg l/\l≠.obj Ch/\¬Shun l
 aGrow:∀w w' l x,Mx w w'->LA w l x->LA w' l x
 bGrow:∀w w' l x,Mx w w'->LB w l x->LB w' l x
 wgS:∀l,Gw Wg l->¬Shun l
 chS:¬Shun (.obj Ch)
section
variable (p:gW) (k q N:Nat) (LA LB:Z->Loc->Bool->Prop)
structure TI(t w dA dB):Prop where
 clean:∀said,¬Race said t
 knA:∀i a,om t i=lj a->a.loc.isMemory=km->Knows t 0 i∨(p a.loc/\a.kind=.atomic)∨(t.g? i=lj k/\(LB w a.loc a.write∨((Gw q a.loc∨a.loc=.obj N)/\a.kind=.atomic)))
 knB:∀i a,om t i=lj a->a.loc.isMemory=km->Knows t k i∨(p a.loc/\a.kind=.atomic)∨(t.g? i=lj 0/\(LA w a.loc a.write∨(Gw q a.loc/\a.kind≠.plain)∨(a.loc=.obj N/\a.kind=.atomic)))
 over:∀i g,t.g? i=lj g->g≠0->g≠k->t.counts i->∃j,t.g? j=lj 0/\s9 t i j
 dA:vp t 0=dA
 dB:vp t k=dB
 seen:∀op∈t,op.act.low w.1.size
end
section
variable {p:gW} {k q N:Nat} {LA LB:Z->Loc->Bool->Prop} {a:Nat}
def Qi{k}(h:∀i g,t.g? i=lj g->g≠0->g≠k->t.counts i->∃j,t.g? j=lj 0/\s9 t i j)(A:∀b∈u,b.g=0∨b.g=k∨b.act.touch? = jh):∀i g,(t++u).g? i=lj g->g≠0->g≠k->(t++u).counts i->∃j,(t++u).g? j=lj 0/\s9 (t++u) i j:=by
 intro i g m c f e;have ⟨x,r,l⟩:=e;have ⟨b,a,z⟩:=q8 r;rcases getElem?_append_cases a with⟨n,p⟩|⟨_,q⟩
 ·have ⟨j,o,v⟩:=h i g (by simpa[h9,getElem?_append_old n] using m) c f ((counts_old n).1 ⟨x,r,l⟩);have d:j<t.size:=by
   unfold h9 at o
   grind
  exact⟨j,by simpa[h9,getElem?_append_old d] using o,ju u v⟩
 ·have y:b.g=g:=by simpa[h9,a] using m
  grind
def Xm{g}(h:t.g? i=lj g):(t++u).g? i=lj g:=by
 unfold h9 at h;have ⟨z,a,b⟩:=bB.1 h;rw[g?_old (lt_size_of_getElem? a)];unfold h9;omega
def Ri(h:∀a∈t,a.act.low e.1.size)(c:F e.1<=F d.1)(b:∀a∈u,a.act.low d.1.size):=
 mr (λa f=>MemAct.low_mono c (h a f)) b
def TI.appA(Q:DJ p q N LA LB)(S:0<k)(v:TI p k q N LA LB t e a j)(D:Mx e d)(A:∀h∈u,h.g=0)(F:∀h∈u,∀b,h.act.touch? = lj b->b.loc.isMemory=km->LA d b.loc b.write∨(Gw q b.loc/\b.kind≠.plain)∨(b.loc=.obj N/\b.kind=.atomic))(J:vp (t++u) 0=s)(M:∀h∈u,h.act.low d.1.size):TI p k q N LA LB (t++u) d s j:=by
 refine⟨λC=>l6 (v.clean C) A λz w E h g b K o=>?_,λz w E n=>?_,λz w E n=>?_,Qi v.over λh g=>r7 (A h g),J,?_,Ri v.seen D.size M⟩
 ·have n:b.loc.isMemory=km:=o.1▸o.2.1;rcases v.2 z w E o.2.1 with O|⟨y,_⟩|⟨_,f⟩
  ·exact O
  ·exfalso;rcases F h g b K n with c|⟨c,_⟩|⟨c,_⟩
   ·exact(Q.2 _ _ _ c).2.2 (o.1▸y)
   ·exact Q.wgS _ c (o.1▸y)
   ·exact Q.chS (c▸o.1▸y)
  ·exfalso;obtain⟨i,_,r,m⟩:=o;rcases f with f|⟨f,I⟩
   ·rcases F h g b K n with c|⟨c,_⟩|⟨c,_⟩
    ·have:=Q.apart d b.loc b.write w.write c (i▸Q.5 _ _ _ _ D f);rcases r with r|r
     ·rw[this.2]at r;cases r
     ·rw[this.1]at r;cases r
    ·exact(Q.3 _ _ _ f).1 (i▸c)
    ·exact(Q.3 _ _ _ f).2.1 (i.trans c)
   ·rcases F h g b K n with c|⟨c,P⟩|⟨c,R⟩
    ·rcases f with f|f
     ·exact(Q.2 _ _ _ c).1 (i▸f)
     ·exact(Q.2 _ _ _ c).2.1 (i▸f)
    ·rw[I]at m;rcases m with x|x|⟨_,x,_⟩
     ·cases x
     ·exact P x
     ·cases x
    ·rw[I]at m;rw[R]at m;rcases m with x|x|⟨_,x,_⟩
     ·cases x
     ·cases x
     ·cases x
 ·obtain⟨x,B,l⟩:=q8 E;rcases getElem?_append_cases B with⟨_,L⟩|⟨_,H⟩
  ·rcases v.2 z w (by rwa[touchAt_of L]) n with c|c|⟨c,G⟩
   ·exact r7 (c.app u)
   ·exact kr (r7 c)
   ·exact kr (kr ⟨Xm c,G.imp (Q.5 _ _ _ _ D) id⟩)
  ·have:=knows_own B;rw[A x H]at this;exact r7 this
 ·obtain⟨x,B,l⟩:=q8 E;rcases getElem?_append_cases B with⟨_,L⟩|⟨_,H⟩
  ·rcases v.3 z w (by rwa[touchAt_of L]) n with c|c|⟨c,G⟩
   ·exact r7 (c.app u)
   ·exact kr (r7 c)
   ·exact kr (kr ⟨Xm c,G.imp (Q.4 _ _ _ _ D) id⟩)
  ·exact kr (kr ⟨by simp[h9,B,A x H],F x H w l n⟩)
 ·rw[←v.6];exact zl t (g:=k) (g':=0) Aa u A
def TI.appB(Q:DJ p q N LA LB)(S:0<k)(h:TI p k q N LA LB t e a j)(F:Mx e d)(B:∀g∈u,g.g=k){v}(A:∀g∈u,∀b,g.act.touch? = lj b->b.loc.isMemory=km->LB d b.loc b.write∨((Gw q b.loc∨b.loc=.obj N)/\b.kind=.atomic))(J:vp (t++u) k=v)(O:∀g∈u,g.act.low d.1.size):TI p k q N LA LB (t++u) d a v:=by
 refine⟨λD=>l6 (h.clean D) B λE w H g z b K o=>?_,λE w H l=>?_,λE w H l=>?_,Qi h.over λg z=>kr (r7 (B g z)),?_,J,Ri h.seen F.size O⟩
 ·have l:b.loc.isMemory=km:=o.1▸o.2.1;rcases h.3 E w H o.2.1 with P|⟨y,_⟩|⟨_,f⟩
  ·exact P
  ·exfalso;rcases A g z b K l with c|⟨c|c,_⟩
   ·exact(Q.3 _ _ _ c).2.2 (o.1▸y)
   ·exact Q.wgS _ c (o.1▸y)
   ·exact Q.chS (c▸o.1▸y)
  ·exfalso;obtain⟨i,_,r,m⟩:=o;rcases f with f|⟨f,I⟩|⟨f,R⟩
   ·rcases A g z b K l with c|⟨c|c,_⟩
    ·have:=Q.apart d b.loc w.write b.write (i▸Q.4 _ _ _ _ F f) c;rcases r with r|r
     ·rw[this.1]at r;cases r
     ·rw[this.2]at r;cases r
    ·exact(Q.2 _ _ _ f).1 (i▸c)
    ·exact(Q.2 _ _ _ f).2.1 (i.trans c)
   ·rcases A g z b K l with c|⟨_,L⟩
    ·exact(Q.3 _ _ _ c).1 (i▸f)
    ·rw[L]at m;rcases m with x|x|⟨_,_,x⟩
     ·exact I x
     ·cases x
     ·cases x
   ·rcases A g z b K l with c|⟨_,L⟩
    ·exact(Q.3 _ _ _ c).2.1 (i.symm.trans f)
    ·rw[L,R]at m;rcases m with x|x|⟨_,_,x⟩
     ·cases x
     ·cases x
     ·cases x
 ·obtain⟨x,C,M⟩:=q8 H;rcases getElem?_append_cases C with⟨_,s⟩|⟨_,n⟩
  ·rcases h.2 E w (by rwa[touchAt_of s]) l with c|c|⟨c,G⟩
   ·exact r7 (c.app u)
   ·exact kr (r7 c)
   ·exact kr (kr ⟨Xm c,G.imp (Q.5 _ _ _ _ F) id⟩)
  ·exact kr (kr ⟨by simp[h9,C,B x n],A x n w M l⟩)
 ·obtain⟨x,C,M⟩:=q8 H;rcases getElem?_append_cases C with⟨_,s⟩|⟨_,n⟩
  ·rcases h.3 E w (by rwa[touchAt_of s]) l with c|c|⟨c,G⟩
   ·exact r7 (c.app u)
   ·exact kr (r7 c)
   ·exact kr (kr ⟨Xm c,G.imp (Q.4 _ _ _ _ F) id⟩)
  ·have:=knows_own C;rw[B x n]at this;exact r7 this
 ·rw[←h.5];exact zl t (g:=0) (g':=k) Aa u B
def TI.appMute(Q:DJ p q N LA LB)(h:TI p k q N LA LB t e a j)(F:Mx e d)(C:∀g∈u,g.act.touch? = jh)(n:vp (t++u) 0=vp t 0)(x:vp (t++u) k=vp t k)(B:∀g∈u,g.act.low d.1.size):TI p k q N LA LB (t++u) d a j:=by
 have m:∀i b,om (t++u) i=lj b->om t i=lj b:=λi b f=>by
  obtain⟨J,D,K⟩:=q8 f;rcases getElem?_append_cases D with⟨_,y⟩|⟨_,L⟩
  ·rwa[touchAt_of y]
  grind
 refine⟨λl=>?_,λi b f r=>?_,λi b f r=>?_,Qi h.over λg s=>kr (kr (C g s)),n.trans h.5,x.trans h.6,Ri h.seen F.size B⟩
 ·rintro⟨i,v,z,⟨b,w,f,E,A⟩,H,I⟩;exact h.clean l ⟨i,v,z,⟨b,w,m i b f,m v w E,A⟩,λo=>H (ju u o),λo=>I (ju u o)⟩
 ·rcases h.2 i b (m i b f) r with c|c|⟨c,G⟩
  ·exact r7 (c.app u)
  ·exact kr (r7 c)
  ·exact kr (kr ⟨Xm c,G.imp (Q.5 _ _ _ _ F) id⟩)
 ·rcases h.3 i b (m i b f) r with c|c|⟨c,G⟩
  ·exact r7 (c.app u)
  ·exact kr (r7 c)
  ·exact kr (kr ⟨Xm c,G.imp (Q.4 _ _ _ _ F) id⟩)
def TI.grow(Q:DJ p q N LA LB)(h:TI p k q N LA LB t e a j)(b:Mx e d):TI p k q N LA LB t d a j:=by
 have:=h.appMute (u:=#[]) Q b Ad Ad Ad Ad;simpa using this
end
def Ga(Wg:Nat):m:=(iC Wg)
def FJ(Wg:Nat):m:=(iD Wg 1)
def R9(m:Mark):Event:=⟨.mark m,sd,km⟩
def CP(a:m):Event:=⟨.cell a,sd,km⟩
def VZ(a:m):Event:=⟨.cell a,km,km⟩
structure RI(k Wg)(t:wv)(r):Prop where
 act:t.act? r=lj (.mark (.releaseMerge (Ga Wg)))
 g:t.g? r=lj k
 heard:t.heard r
 late:∀i a,r<i->t.g? i=lj k->om t i=lj a->Gw Wg a.loc/\a.kind=.atomic/\0<t.deaf k i
 norel:∀i,r<i->t.act? i≠lj (.mark (.release (Ga Wg)))
section
variable {p:gW} {k q N:Nat} {LA LB:Z->Loc->Bool->Prop} {a:Nat}
def RI.app(h:RI k q t r)(e:∀j∈u,j.act≠.mark (.release (Ga q)))(w:∀i a,t.size<=i->(t++u).g? i=lj k->om (t++u) i=lj a->Gw q a.loc/\a.kind=.atomic/\0<(t++u).deaf k i):RI k q (t++u) r:=by
 have m:=lt_of_act? h.act;refine⟨by rw[act?_old m];exact h.act,Xm h.g,(um m).2 h.heard,λi a d o n=>?_,λi d f=>?_⟩
 ·rcases Nat.lt_or_ge i t.size with b|p
  ·have:=h.late i a d (by rwa[g?_old b]at o) (by rwa[touchAt_old b]at n)
   rwa[rp (eL b)]
  grind
 ·obtain⟨j,s,c⟩:=bB.1 f;rcases getElem?_append_cases s with⟨b,g⟩|⟨_,l⟩
  ·exact h.norel i d (by rw[act?_of g,c])
  ·exact e j l c
def RI.appOther(h:RI k q t r)(f:∀b∈u,b.g≠k/\b.act≠.mark (.release (Ga q))):=
 h.app (λb c=>(f b c).2) λi a g d _=>by
  have ⟨b,j,e⟩:=bB.1 d
  grind
def RI.appOwn(h:RI k q t r)(b c X)(A:∀a∈X,a.loc≠.mark (.release (Ga q)))(n:∀j a,X[j]?=lj a->(MemAct.ofEvent a).touch? = jh∨((∃f wr,a=⟨.cell f,wr,km⟩/\f.block=q)/\0<xz (vp t k) (X.extract 0 j))):RI k q (t++MemOp.ofEvents k b c X) r:=by
 refine h.app (λu p a=>?_) λi m E D e=>?_
 ·obtain⟨x,B,rfl⟩:=py p;apply A x B;obtain⟨g,wr,v⟩:=x;cases g with
  |mark w=>cases wr<;>cases v<;>simp[MemAct.ofEvent]at a<;>rw[a]
  |obj F=>cases wr<;>cases v<;>simp[MemAct.ofEvent]at a
  |_=>simp[MemAct.ofEvent]at a
 ·obtain⟨u,G,d⟩:=q8 e;have s:(MemOp.ofEvents k b c X)[i - t.size]?=lj u:=by
   grind
  rw[ofEvents_eq,aN]at s;obtain⟨a,z,rfl⟩:=bB.1 s;have o:i - t.size<=X.size:=by
   grind
  rcases n _ a z with C|⟨⟨f,wr,rfl,l⟩,y⟩
  ·grind
  ·have:=deaf_inside t k b c X (i - t.size) o;rw[show t.size+(i - t.size)=i by omega]at this;rw[this];cases wr<;>simp[MemAct.ofEvent,MemAct.touch?]at d<;>subst d<;>exact⟨⟨f,iI,l⟩,iI,y⟩
def ofEvents_one(g fn pos m):MemOp.ofEvents g fn pos #[R9 m]=#[{ g,fn,pos,act:=.mark m }]:=by
 rw[ofEvents_eq];simp[R9,MemAct.ofEvent]
def RI.new(f:vp t k=0)(fn pos):RI k q (t++MemOp.ofEvents k fn pos #[R9 (.releaseMerge (Ga q))]) t.size:=by
 rw[ofEvents_one];have g:(t++#[({ g:=k,fn,pos,act:=.mark (.releaseMerge (Ga q)) }:MemOp)])[t.size]?=lj { g:=k,fn,pos,act:=.mark (.releaseMerge (Ga q)) }:=Ad;have jh:∀i,t.size<i->(t++#[({ g:=k,fn,pos,act:=.mark (.releaseMerge (Ga q)) }:MemOp)])[i]?=jh:=λi b=>by
  grind
 refine⟨by rw[act?_of g],by simp[h9],⟨k,by simp[h9],by rwa[rp (aC _)]⟩,λi a b c _=>?_,λi b e=>?_⟩
 ·unfold h9 at c;rw[jh i b]at c;cases c
 ·unfold Trace.act? at e;rw[jh i b]at e;cases e
def TI.join(hk:0<k)(h:TI p k q N LA LB t e 0 j)(R:RI k q t r)(fn pos)(hW:q<iL e.1):Past (λl=>p l∨Gw q l) e.1.size (t++MemOp.ofEvents 0 fn pos #[R9 (.acquire (Ga q))]):=by
 rw[ofEvents_one];have U:(t++#[({ g:=0,fn,pos,act:=.mark (.acquire (Ga q)) }:MemOp)])[t.size]?=lj { g:=0,fn,pos,act:=.mark (.acquire (Ga q)) }:=Ad;have M:=lt_of_act? R.act;obtain⟨T,d,D⟩:=bB.1 R.act;have Q:T.g=k:=by
  have:=R.g;simpa[h9,d] using this
 have V:s9 (t++#[({ g:=0,fn,pos,act:=.mark (.acquire (Ga q)) }:MemOp)]) r t.size:=
  .single (kr ⟨.marked (a:=Ga q) M (kr (by rw[act?_old M];exact R.act)) (by rw[act?_of U]) (λb u F=>by rw[act?_old F];exact R.norel b u),
   (um M).2 R.heard,⟨0,by simp[h9],by rw[rp (aC _)];exact h.5⟩⟩)
 have L:∀i s,t[i]?=lj s->s.g=k->i<r->s9 (t++#[({ g:=0,fn,pos,act:=.mark (.acquire (Ga q)) }:MemOp)]) i t.size:=λi s W I c=>
  (ju _ (hb_po c W d (I.trans Q.symm))).trans V
 have o:∀i a,om (t++#[({ g:=0,fn,pos,act:=.mark (.acquire (Ga q)) }:MemOp)]) i=lj a->i<t.size/\om t i=lj a:=λi a B=>by
  obtain⟨x,P,A⟩:=q8 B;rcases getElem?_append_cases P with⟨c,f⟩|⟨_,X⟩
  ·exact⟨c,by rwa[touchAt_of f]⟩
  ·have:x = { g:=0,fn,pos,act:=.mark (.acquire (Ga q)) }:=by simpa using X
   rw[this]at A;cases A
 refine⟨λY=>?_,λi a B Z=>?_,λi g I a1 H=>?_,?_,?_⟩
 ·rintro⟨i,b,J,⟨a,O,B,G,H⟩,n1,n2⟩;exact h.clean Y ⟨i,b,J,⟨a,O,(o i a B).2,(o b O G).2,H⟩,λz=>n1 (ju _ z),λz=>n2 (ju _ z)⟩
 ·obtain⟨c,v⟩:=o i a B;rcases h.2 i a v Z with u|⟨u,F⟩|⟨u,F⟩
  ·exact r7 (u.app _)
  ·exact kr ⟨r7 u,F⟩
  ·obtain⟨s,y,E⟩:=bB.1 u;rcases Nat.lt_trichotomy i r with n|rfl|K
   ·exact r7 ⟨t.size,_,U,iI,kr (L i s y E n)⟩
   ·rw[d]at y;obtain rfl:=aB y;rw[touchAt_of d,D]at v;cases v
   ·obtain⟨x1,x2,_⟩:=R.late i a K u v;exact kr ⟨kr x1,x2⟩
 ·obtain⟨x,P,a6,m⟩:=H;obtain⟨c,f⟩:=o i x P;have w:t.g? i=lj g:=by rwa[g?_old c]at I
  by_cases C:g=k
  ·subst C;obtain⟨s,y,E⟩:=bB.1 w;rcases Nat.lt_trichotomy i r with n|rfl|K
   ·exact⟨t.size,by simp[h9],L i s y E n⟩
   ·rw[d]at y;obtain rfl:=aB y;rw[touchAt_of d,D]at f;cases f
   ·obtain⟨_,y2,y3⟩:=R.late i x K w f;exfalso;rcases m with m|m
    ·exact m y2
    ·obtain⟨g1,S,e2⟩:=(um c).1 m;rw[w]at S;obtain rfl:=aB S;omega
  ·obtain⟨b,hj,G⟩:=h.over i g w a1 C ⟨x,f,a6,m.imp id (um c).1⟩;exact⟨b,Xm hj,ju _ G⟩
 ·rw[Deaf_push];exact h.5
 ·refine mr h.seen λs a7=>?_;have:s = { g:=0,fn,pos,act:=.mark (.acquire (Ga q)) }:=by simpa using a7
  rwa[this]
end
def Qf:Obj->Prop
 |.pending _ _=>False
 |.view _ _=>False
 |_=>True
structure Gf(K:Nat->Obj->Prop)(w w':gk):Prop where
 tape:w'.tape=w.tape
 os:w'.os=w.os
 output:w'.output=w.output
 size:iL w.1<=iL w'.1
 keep:∀i(o:Obj),w.1[i]?=lj o->K i o->w'.1[i]?=lj o
 far:∀(i:Nat)o,w'.1[i]?=lj o->¬Qf o->w.1[i]?=lj o
def Gf.refl(K:Nat->Obj->Prop)(w):Gf K w w:=⟨iI,iI,iI,aC _,λ_ _ h _=>h,λ_ _ h _=>h⟩
def Gf.trans{a b c}(h:Gf K a b)(d:Gf K b c):Gf K a c:=
 ⟨d.tape.trans h.tape,d.os.trans h.os,d.output.trans h.output,aE h.size d.size,λi o e k=>d.keep i o (h.keep i o e k) k,λi o e n=>h.6 i o (d.6 i o e n) n⟩
def Gf.at(K:Nat->Obj->Prop)(w d):Gf K w (w.at d):=⟨iI,iI,iI,aC _,λ_ _ h _=>h,λ_ _ h _=>h⟩
def KK:Int:=4294967296
def JK(ty:q9)(st sm:Int):Obj:=.cells #[uu .u64 st,uu .u32 sm] ty
def Dx(ty:q9)(Wg:Nat)(w:Z)(st sm:Int):Prop:=w.1[Wg]?=lj (JK ty st sm)
def D9(ty:q9)(Wg:Nat)(w:Z):Prop:=∃st sm,Dx ty Wg w st sm
def Aau(ty:q9)(Wg Ch:Nat)(w:Z):Prop:=D9 ty Wg w/\∃s r tm,w.1[Ch]?=lj (.chan 0 #[] km s r tm)
structure BR where
 P:im
 Shun:Loc->Prop
 k:Nat
 Wg:Nat
 Ch:Nat
 ty:q9
 LA:gk->Loc->Bool->Prop
 LB:gk->Loc->Bool->Prop
 KA:Nat->Obj->Prop
 KB:Nat->Obj->Prop
 β:Type
 Msg:β->uo->gk->Prop
 FB:List (β×uo)->gk->Prop
 PostA:List (β×uo)->vr->gk->Prop
structure BR.Ok(C:BR):Prop where
 hk:0<C.k
 parts:DJ C.Shun C.Wg C.Ch C.LA C.LB
 neq:C.Wg≠C.Ch
 ka:∀i o,C.KA i o->i≠C.Wg/\i≠C.Ch
 kb:∀i o,C.KB i o->i≠C.Wg/\i≠C.Ch
 msgB:∀b v w w',Gf C.KB w w'->C.12 b v w->C.12 b v w'
 fbB:∀sent w w',Gf C.KB w w'->C.FB sent w->C.FB sent w'
 postAt:∀sent g w d,C.14 sent g (w.at d)↔C.14 sent g w
def EvP(L:Z->Loc->Bool->Prop)(w':Z)(e:Event):Prop:=
 (∃m,e.loc=.mark m/\Neutral m)∨(∃a wr,e=⟨.cell a,wr,sd⟩/\L w' (.cell a) wr/\a.block<F w'.1)
section
variable (C:BR) (sent:List (C.β×O))
structure RA(w w₁):Prop where
 keep:Gf C.KA w w₁
 wg:D9 C.ty C.Wg w->D9 C.ty C.Wg w₁
 msg:∀x∈sent,C.12 x.1 x.2 w->C.12 x.1 x.2 w₁
structure RB(w w₁):Prop where
 keep:Gf C.KB w w₁
 wg:D9 C.ty C.Wg w->D9 C.ty C.Wg w₁
structure DA(w w')(es:Array Event):Prop where
 keep:Gf C.KB w w'
 grow:Mx w w'
 wg:w'.1[C.Wg]?=w.1[C.Wg]?
 ch:w'.1[C.Ch]?=w.1[C.Ch]?
 ev:∀e∈es,EvP C.LA w' e
structure DB(w w')(es:Array Event):Prop where
 keep:Gf C.KA w w'
 msg:∀x∈sent,C.12 x.1 x.2 w->C.12 x.1 x.2 w'
 grow:Mx w w'
 wg:w'.1[C.Wg]?=w.1[C.Wg]?
 ch:w'.1[C.Ch]?=w.1[C.Ch]?
 ev:∀e∈es,EvP C.LB w' e
abbrev D0:Z->Z->Array Event->Prop:=Go.ConcX.DC0
def D0.da{B}(h:D0 w B X):DA C w B X:=by
 obtain⟨rfl,rfl⟩:=h;exact⟨.refl _ _,.refl _,iI,iI,Ad⟩
def D0.db{B}(h:D0 w B X):DB C sent w B X:=by
 obtain⟨rfl,rfl⟩:=h;exact⟨.refl _ _,λ_ _ h=>h,.refl _,iI,iI,Ad⟩
def RA.refl(w):RA C sent w w:=⟨.refl _ _,id,λ_ _ h=>h⟩
def RB.refl(w):RB C w w:=⟨.refl _ _,id⟩
variable {C sent} in
theorem RA.trans{a b c}(h:RA C sent a b)(d:RA C sent b c):RA C sent a c:=⟨h.keep.trans d.keep,λx=>d.wg (h.wg x),λx e m=>d.msg x e (h.msg x e m)⟩
variable {C} in
theorem RB.trans{a b c}(h:RB C a b)(d:RB C b c):RB C a c:=⟨h.keep.trans d.keep,λx=>d.wg (h.wg x)⟩
def BD4(g:T)(w:Z):Prop:=
 g.status=.running/\((∃st,Dx C.ty C.Wg w st 0)->∃g',stepG C.P sd g w=.go g' (w.setCell (FJ C.Wg) (uu .u32 1)) (semEvents (FJ C.Wg))/\p8 C.P g=km/\∃q,QuitsD C.P q 1 g')
def BD3(g:T)(w:Z):Prop:=
 g.status=.running/\((∃st,Dx C.ty C.Wg w st 0)->∃g',stepG C.P sd g w=.go g' (w.setCell (Ga C.Wg) (uu .u64 0)) #[VZ (Ga C.Wg)]/\∃m,y C.P sd (RB C) D0 (BD4 C) m g' (w.setCell (Ga C.Wg) (uu .u64 0)))
def BD2(g:T)(w:Z):Prop:=
 g.status=.running/\(Dx C.ty C.Wg w 1 0->∃g',stepG C.P sd g w=.go g' w #[CP (Ga C.Wg)]/\∃m,y C.P sd (RB C) D0 (BD3 C) m g' w)
def BD1(g:T)(w:Z):Prop:=
 g.status=.running /\
  (Dx C.ty C.Wg w KK 0->∃g',stepG C.P sd g w=.go g' (w.setCell (Ga C.Wg) (uu .u64 0)) #[CP (Ga C.Wg),VZ (Ga C.Wg)]/\∃q,QuitsD C.P q 1 g') /\
  (Dx C.ty C.Wg w (KK+1) 0->∃g',stepG C.P sd g w=.go g' (w.setCell (Ga C.Wg) (uu .u64 1)) #[CP (Ga C.Wg),VZ (Ga C.Wg)]/\∃m,y C.P sd (RB C) D0 (BD2 C) m g' (w.setCell (Ga C.Wg) (uu .u64 1)))
def BK1(g:T)(w:Z):Prop:=
 g.status=.running/\∃g',stepG C.P sd g w=.go g' w #[R9 .disable]/\∃m,y C.P sd (RB C) D0 (BD1 C) m g' w
def BR0(g:T)(w:Z):Prop:=
 g.status=.running/\C.FB sent w/\∃g',stepG C.P sd g w=.go g' w #[R9 (.releaseMerge (Ga C.Wg))]/\∃m,y C.P sd (RB C) D0 (BK1 C) m g' w
def Aas(g:T)(w:Z):Prop:=
 g.status=.running/\p8 C.P g=km/\∀s r tm,w.1[C.Ch]?=lj (.chan 0 #[] sd s r tm) ->
  ∃g₂,stepG C.P sd g w=.go g₂ (w.shut C.Ch s r tm) #[⟨.obj C.Ch,sd,km⟩,⟨.obj C.Ch,km,km⟩]/\g₂.status=.running/\∃m,y C.P sd (RB C) (DB C sent) (BR0 C sent) m g₂ (w.shut C.Ch s r tm)
def Aiw(b:C.β)(Next:O->T->Z->Prop)(g:T)(w:Z):Prop:=
 g.status=.running/\∃v z,stepG C.P sd g w=.comm (core g) #[gu C.Ch v z] km .send w #[]/\C.12 b v w/\∀w₂,RB C w w₂->Next v (mz (core g) undef) w₂
def Amx(g:T)(w:Z):Prop:=
 g.status=.running/\∃g',stepG C.P km g w=.go g' w #[R9 (.acquire (Ga C.Wg))]/\g'.status=.running/\C.14 sent g' w
def AKe(g:T)(w:Z):Prop:=
 g.status=.running/\∃g',stepG C.P km g w=.go g' w #[R9 .enable]/\∃m,y C.P km (RA C sent) D0 (Amx C sent) m g' w
def AW4(g:T)(w:Z):Prop:=
 g.status=.running/\(Dx C.ty C.Wg w 0 0->∃g',stepG C.P km g w=.go g' w #[CP (Ga C.Wg)]/\∃m,y C.P km (RA C sent) D0 (AKe C sent) m g' w)
def AW3(g:T)(w:Z):Prop:=
 g.status=.running/\g.5=jh /\
  ((∃st,Dx C.ty C.Wg w st 0)->stepG C.P km g w=.go { g with status:=.blocked } w #[]) /\
  (Dx C.ty C.Wg w 0 1->∃g',stepG C.P km g w=.go g' (w.setCell (FJ C.Wg) (uu .u32 0)) (semEvents (FJ C.Wg))/\∃m,y C.P km (RA C sent) D0 (AW4 C sent) m g' (w.setCell (FJ C.Wg) (uu .u32 0)))
def AWm(g:T)(w:Z):Prop:=
 g.status=.running/\∃g',stepG C.P km g w=.go g' w #[R9 (.write (FJ C.Wg))]/\∃m,y C.P km (RA C sent) D0 (AW3 C sent) m g' w
def AWz(g:T)(w:Z):Prop:=
 g.status=.running/\(Dx C.ty C.Wg w 0 0->∃g',stepG C.P km g w=.go g' w #[CP (Ga C.Wg)]/\∃m,y C.P km (RA C sent) D0 (AKe C sent) m g' w)
def AW2(g:T)(w:Z):Prop:=
 g.status=.running /\
  (Dx C.ty C.Wg w KK 0->∃g',stepG C.P km g w=.go g' (w.setCell (Ga C.Wg) (uu .u64 (KK+1))) #[CP (Ga C.Wg),VZ (Ga C.Wg)]/\∃m,y C.P km (RA C sent) D0 (AWm C sent) m g' (w.setCell (Ga C.Wg) (uu .u64 (KK+1)))) /\
  (Dx C.ty C.Wg w 0 0->∃g',stepG C.P km g w=.go g' w #[CP (Ga C.Wg)]/\∃m,y C.P km (RA C sent) D0 (AWz C sent) m g' w)
def AW1(g:T)(w:Z):Prop:=
 g.status=.running /\
  (Dx C.ty C.Wg w KK 0->∃g',stepG C.P km g w=.go g' w #[CP (Ga C.Wg)]/\∃m,y C.P km (RA C sent) D0 (AW2 C sent) m g' w) /\
  (Dx C.ty C.Wg w 0 0->∃g',stepG C.P km g w=.go g' w #[CP (Ga C.Wg)]/\∃m,y C.P km (RA C sent) D0 (AKe C sent) m g' w)
def AKd(g:T)(w:Z):Prop:=
 g.status=.running/\∃g',stepG C.P km g w=.go g' w #[R9 .disable]/\∃m,y C.P km (RA C sent) D0 (AW1 C sent) m g' w
def ARc(g:T)(w:Z):Prop:=
 g.status=.running/\∃z,stepG C.P km g w=.comm (core g) #[vx C.Ch z] km (.recv km) w #[]/\∀w₂,RA C sent w w₂->∃m,y C.P km (RA C sent) (DA C) (AKd C sent) m (mz (core g) (js #[z,.bool sd])) w₂
def Ait(b:C.β)(Next:O->T->Z->Prop)(g:T)(w:Z):Prop:=
 g.status=.running/\∃z,stepG C.P km g w=.comm (core g) #[vx C.Ch z] km (.recv km) w #[]/\∀v w₂,RA C sent w w₂->C.12 b v w₂->Next v (mz (core g) (js #[v,.bool km])) w₂
end
section
variable (C:BR)
def Yv:List C.β->List (C.β×O)->T->Z->Prop
 |[],sent,g,w=>∃n,y C.P sd (RB C) (DB C sent) (Aas C sent) n g w
 |b::bs,sent,g,w=>∃n,y C.P sd (RB C) (DB C sent) (Aiw C b λv g' w'=>Yv bs (sent++[(b,v)]) g' w') n g w
def Yw:List C.β->List (C.β×O)->T->Z->Prop
 |[],sent=>Aas C sent
 |b::bs,sent=>Aiw C b λv g' w'=>Yv C bs (sent++[(b,v)]) g' w'
def PR(W sent g w):Yv C W sent g w↔∃n,y C.P sd (RB C) (DB C sent) (Yw C W sent) n g w:=by
 cases W<;>exact Iff.rfl
def Yw.running{W sent}(h:Yw C W sent g w):g.status=.running:=by cases W<;>exact h.1
def FU:List C.β->List (C.β×O)->T->Z->Prop
 |[],sent,g,w=>∃n,y C.P km (RA C sent) (DA C) (ARc C sent) n g w
 |b::bs,sent,g,w=>∃n,y C.P km (RA C sent) (DA C) (Ait C sent b λv g' w'=>FU bs (sent++[(b,v)]) g' w') n g w
def Kn:List C.β->List (C.β×O)->T->Z->Prop
 |[],sent=>ARc C sent
 |b::bs,sent=>Ait C sent b λv g' w'=>FU C bs (sent++[(b,v)]) g' w'
def PN(W sent g w):FU C W sent g w↔∃n,y C.P km (RA C sent) (DA C) (Kn C W sent) n g w:=by
 cases W<;>exact Iff.rfl
def Kn.comm{W sent}(h:Kn C W sent g w):g.status=.running/\∃z,stepG C.P km g w=.comm (core g) #[vx C.Ch z] km (.recv km) w #[]:=by
 cases W<;>exact⟨h.1,let⟨z,a,_⟩:=h.2;⟨z,a⟩⟩
end
def Ss{a}{R:Z->Z->Prop}{e:Z->Z->Array Event->Prop}{b:T->Z->Prop}(f:∀w B X,D w B X->e w B X):∀{n} {g} {w},y P a R D b n g w->y P a R e b n g w
 |0,_,_,h=>h
 |n+1,g,w,h=>by
  rcases h with h|⟨i,h⟩
  ·exact r7 h
  ·refine kr ⟨i,λK U=>?_⟩;have:=h K U;revert this;cases stepG P a g K<;>simp only[GStep.goes,imp_self];exact fun⟨d,x⟩=>⟨f _ _ _ d,Ss f x⟩
section
variable {L:Z->Loc->Bool->Prop} {a:Event}
def DQ(h:EvP L d a){b}(c:(MemAct.ofEvent a).touch? = lj b):L d b.loc b.write:=by
 rcases h with⟨m,j,k⟩|⟨e,wr,rfl,i,_⟩
 ·exfalso;have ⟨l,wr,f⟩:=a;subst j;have g:MemAct.ofEvent ⟨.mark m,wr,f⟩=.mark m:=by cases wr<;>cases f<;>rfl
  rw[g,k.touch]at c;cases c
 ·simp only[ofEvent_cell0,MemAct.touch?,aT]at c;subst c;exact i
def UI(h:EvP L d a):(MemAct.ofEvent a).low d.1.size:=by
 rcases h with⟨m,b,c⟩|⟨i,wr,rfl,_,e⟩
 ·have ⟨j,wr,f⟩:=a;subst b;have g:MemAct.ofEvent ⟨.mark m,wr,f⟩=.mark m:=by cases wr<;>cases f<;>rfl
  subst c
  trivial
 ·exact e
def DO(h:EvP L d a):a.loc≠.mark .disable/\a.loc≠.mark .enable:=by
 rcases h with⟨m,c,b⟩|⟨e,wr,rfl,_,_⟩
 ·rw[c];exact⟨λx=>b.ne_disable (by injection x),λx=>b.ne_enable (by injection x)⟩
 ·simp
end
section
variable {C:BR} {a:Nat} {sent:List (C.β×O)}
abbrev BR.TI(C:BR)(t:wv)(e:Z)(a j:Nat):Prop:=Pair.TI C.Shun C.k C.Wg C.Ch C.LA C.LB t e a j
def OK(O:C.Ok)(h:C.TI t e a j)(D:DA C e d X)(u l):C.TI (t++MemOp.ofEvents 0 u l X) d a j:=by
 refine h.appA O.parts O.1 D.grow (λi b=>B9 b) (λi b k g _=>?_) ?_ (λi b=>?_)
 ·obtain⟨f,c,rfl⟩:=py b;exact r7 (DQ (D.ev f c) g)
 ·rw[xh,vi λf c=>DO (D.ev f c)];exact h.5
 ·obtain⟨f,c,rfl⟩:=py b;exact UI (D.ev f c)
def OL(O:C.Ok)(h:C.TI t e a j)(D:DB C sent e d X)(u l):C.TI (t++MemOp.ofEvents C.k u l X) d a j:=by
 refine h.appB O.parts O.1 D.grow (λi b=>B9 b) (λi b k g _=>?_) ?_ (λi b=>?_)
 ·obtain⟨f,c,rfl⟩:=py b;exact r7 (DQ (D.ev f c) g)
 ·rw[xh,vi λf c=>DO (D.ev f c)];exact h.6
 ·obtain⟨f,c,rfl⟩:=py b;exact UI (D.ev f c)
def WC(Wg:Nat)(e:Event):Prop:=(∃a wr,e=⟨.cell a,wr,km⟩/\a.block=Wg)∨e=R9 .disable∨e=R9 .enable∨e=R9 (.write (FJ Wg))∨e=R9 (.read (FJ Wg))
def WE(Wg:Nat)(e:Event):Prop:=(∃a wr,e=⟨.cell a,wr,km⟩/\a.block=Wg)∨e=R9 .disable∨e=R9 .enable∨e=R9 (.releaseMerge (Ga Wg))
def Mn(a wr):MemAct.ofEvent ⟨.cell a,wr,km⟩=.access ⟨.cell a,wr,km⟩:=iI
def Nq(m):MemAct.ofEvent (R9 m)=.mark m:=iI
def Amb(O:C.Ok)(h:C.TI t e a j)(m:Mx e d)(c:C.Wg<F d.1)(f:∀g∈X,WC C.Wg g)(u k):C.TI (t++MemOp.ofEvents 0 u k X) d (xz a X) j:=by
 refine h.appA O.parts O.1 m (λl G=>B9 G) (λl G n Z _=>?_) ?_ (λl G=>?_)
 ·obtain⟨g,N,rfl⟩:=py G;rcases f g N with⟨b,wr,rfl,i⟩|rfl|rfl|rfl|rfl
  ·simp only[Mn,MemAct.touch?,aT]at Z;subst Z;exact kr (r7 ⟨⟨b,iI,i⟩,Ad⟩)
  ·cases Z
  ·cases Z
  ·exact D3z
  ·exact D3z
 ·rw[xh,h.5]
 ·obtain⟨g,N,rfl⟩:=py G;rcases f g N with⟨b,wr,rfl,i⟩|rfl|rfl|rfl|rfl
  ·show b.block<_
   rwa[i]
  ·trivial
  ·trivial
  ·exact c
  ·exact c
def JJ(O:C.Ok)(y:C.TI t e a j)(m:Mx e d)(k:C.Wg<F d.1)(f:∀g∈X,WE C.Wg g)(u c):C.TI (t++MemOp.ofEvents C.k u c X) d a (xz j X):=by
 refine y.appB O.parts O.1 m (λl G=>B9 G) (λl G n Z _=>?_) ?_ (λl G=>?_)
 ·obtain⟨g,N,rfl⟩:=py G;rcases f g N with⟨b,wr,rfl,i⟩|rfl|rfl|rfl
  ·simp only[Mn,MemAct.touch?,aT]at Z;subst Z;exact kr ⟨r7 ⟨b,iI,i⟩,Ad⟩
  ·cases Z
  ·cases Z
  ·cases Z
 ·rw[xh,y.6]
 ·obtain⟨g,N,rfl⟩:=py G;rcases f g N with⟨b,wr,rfl,i⟩|rfl|rfl|rfl
  ·show b.block<_
   rwa[i]
  ·trivial
  ·trivial
  ·exact k
def OJ(O:C.Ok)(h:C.TI t e a j)(m:Mx e d)(l:C.Ch<F d.1)(u n):C.TI (t++MemOp.ofEvents C.k u n #[⟨.obj C.Ch,sd,km⟩,⟨.obj C.Ch,km,km⟩]) d a j:=by
 refine h.appB O.parts O.1 m (λi b=>B9 b) (λi b k g _=>?_) ?_ (λi b=>?_)
 ·obtain⟨f,c,rfl⟩:=py b;simp at c;rcases c with rfl|rfl
  ·simp[MemAct.ofEvent,MemAct.touch?]at g
   grind
  ·simp[MemAct.ofEvent,MemAct.touch?]at g
 ·rw[xh,vi λf c=>Aj];exact h.6
 ·obtain⟨f,c,rfl⟩:=py b;simp at c;rcases c with rfl|rfl
  ·exact l
  ·exact l
def VS(O:C.Ok)(h:C.TI t e a j)(g:Mx e d)(f:∀b∈u,b.act.touch? = jh/\(∀m,b.act≠.mark m)/\b.act.low d.1.size):C.TI (t++u) d a j:=
 h.appMute O.parts g (λb c=>(f b c).1) (p9 t 0 u λb c=>⟨(f b c).2.1 _,(f b c).2.1 _⟩) (p9 t C.k u λb c=>⟨(f b c).2.1 _,(f b c).2.1 _⟩) λb c=>(f b c).2.2
def Wv(O:C.Ok)(h:C.TI t e a j)(F:i≠0)(m:i≠C.k)(L:∀k∈X,Event.mute k=km)(u d):C.TI (t++MemOp.ofEvents i u d X) e a j:=
 h.appMute O.parts (.refl e) Ai1 (zl t (dG (dG F)) _ λl T=>B9 T) (zl t m _ λl T=>B9 T)
  λl T=>by obtain⟨k,N,rfl⟩:=py T;exact low_mute (L k N) _
def TI.at(O:C.Ok)(h:C.TI t e a j)(d):C.TI t (e.at d) a j:=h.grow O.parts (.at e d)
def Lq{I a b}(h:Dx I a e b sm)(x):Dx I a (e.setCell (Ga a) (uu .u64 x)) x sm:=by
 unfold Dx at h⊢;simp[mu,Ga,JK,bS,h]
def JL{I a b}(h:Dx I a e b sm)(x):Dx I a (e.setCell (FJ a) (uu .u32 x)) b x:=by
 unfold Dx at h⊢;simp[mu,FJ,JK,bS,h]
def Eg(a v)(h:i≠a.block):(e.setCell a v).1[i]?=e.1[i]?:=by
 simp[mu,bS,dG h]
def Qp(a v):(e.setCell a v).1.size=F e.1:=by simp[mu]
def Ag5(a v)(i:Nat)(o)(h:(e.setCell a v).1[i]?=lj o)(f:¬Qf o):e.1[i]?=lj o:=by
 by_cases d:i=a.block
 ·subst d;simp[mu,bS]at h;have ⟨g,c,b⟩:=h;rw[c];revert b;cases g<;>intro b<;>first|exact aJ lj b|(subst b;exact absurd trivial f)
 ·rwa[Eg a v d]at h
def Ka(a v)(h:∀i o,K i o->i≠a.block):Gf K e (e.setCell a v):=
 ⟨iI,iI,iI,Ad,λi o b k=>by rwa[Eg a v (h i o k)],Ag5 a v⟩
def Zv(a v):Mx e (e.setCell a v):=by
 refine⟨Ad,λi o h=>?_⟩;by_cases d:i=a.block
 ·subst d;simp[mu,bS,h];cases o<;>rfl
 ·exact⟨o,by rwa[Eg a v d],iI⟩
def FQ{I a b}(h:Dx I a e b sm):a<F e.1:=by
 unfold Dx at h
 grind
def Hh(h:e.1[i]?=lj o):i<F e.1:=by
 grind
def Lz{c}(h:i≠c):({ e with heap:=e.1.setIfInBounds c o }:Z).1[i]?=e.1[i]?:=by
 grind
def Uy{c}(h:c<F e.1):({ e with heap:=e.1.setIfInBounds c o }:Z).1[c]?=lj o:=by
 simp[h]
def Vy{c}(b:Qf o)(h:∀i o,K i o->i≠c):Gf K e { e with heap:=e.1.setIfInBounds c o }:=by
 refine⟨iI,iI,iI,Ad,λi o a k=>Aj,λi x a d=>?_⟩
 grind
def Zu{a c}(h:e.1[c]?=lj a)(b:kindOf o=kindOf a):Mx e { e with heap:=e.1.setIfInBounds c o }:=by
 refine⟨Ad,λi x d=>?_⟩
 grind
end
def BV(w w':Z):Prop:=w'.os=w.os/\w'.output=w.output
section
variable (C:BR) (I:gX)
variable {C I}
variable {sent:List (C.β×O)}
end
inductive AT|rc|kd|w1|w2|wz|wm|w3|w4|ke|ac
inductive BT|r0|k1|d1|d2|d3|d4|qt
def Vj:AT->Nat
 |.rc=>12|.kd=>11|.w1=>10|.w2=>9|.wz=>8|.wm=>8|.w3=>7|.w4=>6|.ke=>5|.ac=>4
def EZ:BT->Nat
 |.r0=>7|.k1=>6|.d1=>5|.d2=>4|.d3=>3|.d4=>2|.qt=>1
def dfA:AT->Nat
 |.rc|.kd|.ac=>0|_=>1
def dfB:BT->Nat
 |.r0|.k1=>0|_=>1
def Jz:AT->BT->Option (Int×Int)
 |.rc,.qt|.kd,.qt|.w1,.qt|.w2,.qt|.wz,.qt|.w4,.qt|.ke,.qt|.ac,.qt=>lj (0,0)
 |.wm,.qt|.w3,.qt=>lj (0,1)
 |.wm,.d4|.w3,.d4=>lj (0,0)
 |.wm,.d3|.w3,.d3|.wm,.d2|.w3,.d2=>lj (1,0)
 |.wm,.r0|.w3,.r0|.wm,.k1|.w3,.k1|.wm,.d1|.w3,.d1=>lj (KK+1,0)
 |.rc,.r0|.rc,.k1|.rc,.d1|.kd,.r0|.kd,.k1|.kd,.d1|.w1,.r0|.w1,.k1|.w1,.d1|.w2,.r0|.w2,.k1|.w2,.d1=>lj (KK,0)
 |_,_=>jh
section
variable (C:BR) (sent:List (C.β×O))
def StA:AT->T->Z->Prop
 |.rc=>ARc C sent|.kd=>AKd C sent|.w1=>AW1 C sent|.w2=>AW2 C sent|.wz=>AWz C sent|.wm=>AWm C sent|.w3=>AW3 C sent|.w4=>AW4 C sent|.ke=>AKe C sent|.ac=>Amx C sent
def StB:BT->T->Z->Prop
 |.r0=>BR0 C sent|.k1=>BK1 C|.d1=>BD1 C|.d2=>BD2 C|.d3=>BD3 C|.d4=>BD4 C|.qt=>λ_ _=>False
def Kr(ta:AT)(ra:Nat)(a:T)(w:Z):Prop:=
 (∃n,ra=n+1/\y C.P km (RA C sent) (DA C) (StA C sent ta) n a w) ∨
 (ta=.w3/\ra=0/\∃g,a = { g with status:=.blocked }/\∀w₁,RA C sent w w₁->AW3 C sent g w₁)
def DBt:BT->Z->Z->Array Event->Prop
 |.r0=>DB C sent
 |_=>D0
def Pl(tb:BT)(rb dB:Nat)(b:T)(w:Z):Prop:=
 (tb≠.qt/\dB=dfB tb/\∃n,rb=n+1/\y C.P sd (RB C) (DBt C sent tb) (StB C sent tb) n b w)∨(tb=.qt/\QuitsD C.P rb dB b)
def Xb(bs:List C.β)(ra:Nat)(a:T)(w:Z):Prop:=
 (∃n,ra=n+1/\y C.P km (RA C sent) (DA C) (Kn C bs sent) n a w) ∨
 (ra=0/\∃g z,a=tz (core g) #[vx C.Ch z] (.recv km)/\∀w₁,RA C sent w w₁->Kn C bs sent g w₁)
def Xc(bs:List C.β)(rb:Nat)(b:T)(w:Z):Prop:=
 (∃n,rb=n+1/\y C.P sd (RB C) (DB C sent) (Yw C bs sent) n b w) ∨
 (rb=0/\∃b' bs' g v z,bs=b'::bs'/\b=tz (core g) #[gu C.Ch v z] .send/\C.12 b' v w/\∀w₁,RB C w w₁->Yv C bs' (sent++[(b',v)]) (mz (core g) undef) w₁)
structure J2(ta tb ra rb a b)(w:gk)(t):Prop where
 ch:∃s r tm,w.1[C.Ch]?=lj (.chan 0 #[] km s r tm)
 wg:∃st sm,Jz ta tb=lj (st,sm)/\Dx C.ty C.Wg w st sm
 ti:∃dB,C.TI t w (dfA ta) dB/\Pl C sent tb rb dB b w
 sa:Kr C sent ta ra a w
 nb:tb=.qt->ra≠0
 msgs:∀x∈sent,C.12 x.1 x.2 w
 rel:tb≠.r0->C.FB sent w/\∃r,RI C.k C.Wg t r
structure J1(bs ra rb a b)(w:gk)(t):Prop where
 ch:∃s r tm,w.1[C.Ch]?=lj (.chan 0 #[] sd s r tm)
 wg:Dx C.ty C.Wg w KK 0
 ti:C.TI t w 0 0
 sa:Xb C sent bs ra a w
 sb:Xc C sent bs rb b w
 nb:¬(ra=0/\rb=0)
 msgs:∀x∈sent,C.12 x.1 x.2 w
end
section
variable {C:BR} {sent:List (C.β×O)} {a:T} {U:AT} {tb:BT} {I:Nat} {W:List C.β}
def DBt.db(h:DBt C sent tb e d X):DB C sent e d X:=by cases tb<;>first|exact h|exact D0.db C sent h
def DBt.nil(h:DBt C sent tb e d X)(a:tb≠.r0):X=#[]/\d=e:=by cases tb<;>first|exact absurd iI a|exact⟨h.2,h.1⟩|omega
def StA.running(h:StA C sent U g w):g.status=.running:=by cases U<;>exact h.1
def StB.running(h:StB C sent tb g w):g.status=.running:=by cases tb<;>first|exact h.1|exact h.elim
def Kn.running(h:Kn C W sent g w):g.status=.running:=by cases W<;>exact h.1
def raT:∀a E c,RA C sent a E->RA C sent E c->RA C sent a c:=λ_ _ _ h k=>h.trans k
def rbT:∀a E c,RB C a E->RB C E c->RB C a c:=λ_ _ _ h k=>h.trans k
def Aem(O:C.Ok)(h:Gf C.KA e d)(a:Gf C.KB e d)(b:D9 C.ty C.Wg e->D9 C.ty C.Wg d):RA C sent e d:=⟨h,b,λx _ m=>O.6 _ _ _ _ a m⟩
def Pn(h:d.1[C.Wg]?=e.1[C.Wg]?):D9 C.ty C.Wg e->D9 C.ty C.Wg d:=fun⟨a,sm,x⟩=>⟨a,sm,by unfold Dx at *;rwa[h]⟩
def DA.toB(D:DA C e d X):RB C e d:=⟨D.keep,Pn D.wg⟩
def DB.toA(D:DB C sent e d X):RA C sent e d:=⟨D.keep,Pn D.wg,D.msg⟩
def Aja(O:C.Ok)(d):RA C sent e (e.at d):=Aem O (.at _ _ _) (.at _ _ _) id
def Ajb(d):RB C e (e.at d):=⟨.at _ _ _,id⟩
def Kr.rely(h:Kr C sent U I a e)(b:RA C sent e d):Kr C sent U I a d:=by
 rcases h with⟨n,c,k⟩|⟨f,i,g,j,l⟩
 ·exact r7 ⟨n,c,yy raT k b⟩
 ·exact kr ⟨f,i,g,j,λm E=>l m (b.trans E)⟩
def Pl.rely(h:Pl C sent tb b j E e)(f:RB C e d):Pl C sent tb b j E d:=by
 rcases h with⟨a,c,n,g,i⟩|h
 ·exact r7 ⟨a,c,n,g,yy rbT i f⟩
 ·exact kr h
def Xb.rely(h:Xb C sent W I a e)(b:RA C sent e d):Xb C sent W I a d:=by
 rcases h with⟨n,c,j⟩|⟨f,g,z,i,k⟩
 ·exact r7 ⟨n,c,yy raT j b⟩
 ·exact kr ⟨f,g,z,i,λl E=>k l (b.trans E)⟩
def Xc.rely(O:C.Ok)(h:Xc C sent W b E e)(f:RB C e d):Xc C sent W b E d:=by
 rcases h with⟨n,c,l⟩|⟨i,J,g,j,v,z,k,m,o,p⟩
 ·exact r7 ⟨n,c,yy rbT l f⟩
 ·exact kr ⟨i,J,g,j,v,z,k,m,O.6 _ _ _ _ f.keep o,λq a=>p q (f.trans a)⟩
def Kr.status(h:Kr C sent U I a e):(a.status=.running/\I≠0)∨(a.status=.blocked/\I=0/\U=.w3):=by
 rcases h with⟨n,b,E⟩|⟨c,d,g,rfl,_⟩
 ·exact r7 ⟨E.running (λ_ _=>StA.running) e (RA.refl _ _ _),Aa⟩
 grind
def Pl.status(h:Pl C sent tb b j E e):E.status=.running∨(E.status=.finished/\tb=.qt):=by
 rcases h with⟨_,_,n,c,a⟩|⟨c,h⟩
 ·exact r7 (a.running (λ_ _=>StB.running) e (RB.refl _ _))
 ·exact h.status.imp id λx=>⟨x,c⟩
def Xb.status(h:Xb C sent W I a e):(a.status=.running/\I≠0)∨(a.status=.blocked/\I=0):=by
 rcases h with⟨n,b,c⟩|⟨E,g,z,rfl,_⟩
 ·exact r7 ⟨c.running (λ_ _=>Kn.running) e (RA.refl _ _ _),Aa⟩
 ·exact kr ⟨iI,E⟩
def Xc.status(h:Xc C sent W b E e):(E.status=.running/\b≠0)∨(E.status=.blocked/\b=0):=by
 rcases h with⟨n,f,d⟩|⟨c,J,a,g,v,z,_,rfl,_⟩
 ·exact r7 ⟨d.running (λ_ _=>Yw.running C) e (RB.refl _ _),Aa⟩
 ·exact kr ⟨iI,c⟩
def Dz{o}(h:o.status=.running∨o.status=.finished):woken P g R w o=o:=by
 unfold woken;split
 ·exact again_running _ h
 ·rfl
def Pl.woken{P}(h:Pl C sent tb b j E e)(g R B):woken P g R B E=E:=Dz (h.status.imp id (·.1))
def Xb.woken{P}(h:Xb C sent W I a e){b}(c:d.1[C.Ch]?=lj (.chan 0 #[] sd s r b))(g R):woken P g R d a=a:=by
 rcases h with⟨n,i,f⟩|⟨j,g,z,rfl,_⟩
 ·exact Dz (r7 (f.running (λ_ _=>Kn.running) e (RA.refl _ _ _)))
 ·exact woken_recv_open _ _ c
def Xc.woken{P}(h:Xc C sent W b E e){f}(c:d.1[C.Ch]?=lj (.chan 0 #[] sd s r f))(g R):woken P g R d E=E:=by
 rcases h with⟨n,j,i⟩|⟨k,J,a,g,v,z,_,rfl,_⟩
 ·exact Dz (r7 (i.running (λ_ _=>Yw.running C) e (RB.refl _ _)))
 ·exact woken_send_open _ _ c
def Kr.woken{P}(h:Kr C sent U I a e)(g R B):∃E,E<=I+1/\(I≠0->E≠0)/\Kr C sent U E (woken P g R B a) e:=by
 rcases h with⟨n,b,q⟩|⟨m,t,x,rfl,l⟩
 ·refine⟨I,Aa,id,?_⟩;rw[Dz (r7 (q.running (λ_ _=>StA.running) e (RA.refl _ _ _)))];exact r7 ⟨n,b,q⟩
 ·have p:=l e (RA.refl _ _ _);by_cases r:(p8 P g&&R.status != .blocked&&R.status != .waiting)=km
  ·refine⟨1,Aa,λ_=>Aa,r7 ⟨0,iI,?_⟩⟩;have k:p5 P g R B { x with status:=.blocked }=x:=by
    unfold p5;rw[aL r];obtain⟨f,c,s,d,o⟩:=x;have u:=p.1;have v:=p.2.1;subst u v
    rfl
   rw[k];subst m;exact λj i=>l j i
  ·refine⟨I,Aa,id,?_⟩;have k:p5 P g R B { x with status:=.blocked } = { x with status:=.blocked }:=by
    unfold p5;rw[aM r]
   rw[k];exact kr ⟨m,t,x,iI,l⟩
def Kr.wakes{P}(h:Kr C sent U I a e)(B)(r:(p8 P g&&R.status != .blocked&&R.status != .waiting)=km):∃i,i≠0/\Kr C sent U i (p5 P g R B a) e:=by
 rcases h with⟨n,c,l⟩|⟨p,v,x,rfl,m⟩
 ·refine⟨I,Aa,?_⟩;rw[Dz (r7 (l.running (λ_ _=>StA.running) e (RA.refl _ _ _)))];exact r7 ⟨n,c,l⟩
 ·have b:=m e (RA.refl _ _ _);refine⟨1,Aa,r7 ⟨0,iI,?_⟩⟩;have k:p5 P g R B { x with status:=.blocked }=x:=by
   unfold p5;rw[aL r];have ⟨f,o,s,q,u⟩:=x;have d:=b.1;have t:=b.2.1;subst d t
   rfl
  rw[k];subst p;exact λj E=>m j E
end
section
variable (C:BR) (c:List C.β)
structure Fin(a b:vr)(w:gk)(t):Prop where
 run:a.status=.running
 past:Past (λl=>C.Shun l∨Gw C.Wg l) w.1.size t
 quits:∃n,QuitsD C.P n (vp t C.k) b
 post:∃sent,sent.map (·.1)=c/\C.14 sent a w/\C.FB sent w/\∀x∈sent,C.12 x.1 x.2 w
 shut:Aau C.ty C.Wg C.Ch w
def J(μ:Nat×Nat)(a b:T)(w:Z)(t:wv):Prop:=
 (μ=(0,0)/\Fin C c a b w t) ∨
 (∃sent ta tb ra rb,μ=(Vj ta+EZ tb,ra+2 * rb)/\sent.map (·.1)=c/\J2 C sent ta tb ra rb a b w t) ∨
 (∃bs sent ra rb,μ=(iK bs+40,ra+2 * rb)/\sent.map (·.1)++bs=c/\J1 C sent bs ra rb a b w t)
abbrev FY:Nat×Nat->Nat×Nat->Prop:=Prod.Lex (· < ·) (· < ·)
def Ahf:WellFounded FY:=(Prod.lex ⟨_,Nat.lt_wfRel.wf⟩ ⟨_,Nat.lt_wfRel.wf⟩).wf
end
section
variable {C:BR} {f:List C.β} {sent:List (C.β×O)} {a:T} {U c:AT} {tb g:BT} {I:Nat} {W:List C.β}
def Ahl(h:∀e∈X,WC C.Wg e)(i:0<C.k)(u d):∀c∈MemOp.ofEvents 0 u d X,c.g≠C.k/\c.act≠.mark (.release (Ga C.Wg)):=by
 intro c E;obtain⟨e,f,rfl⟩:=py E;refine⟨by show 0≠C.k;omega,?_⟩;rcases h e f with⟨a,wr,rfl,g⟩|rfl|rfl|rfl|rfl<;>simp[MemAct.ofEvent,R9]
def Ahm{L:Z->Loc->Bool->Prop}(h:∀e∈X,EvP L d e)(l:0<C.k)(u b):∀c∈MemOp.ofEvents 0 u b X,c.g≠C.k/\c.act≠.mark (.release (Ga C.Wg)):=by
 intro c E;obtain⟨e,f,rfl⟩:=py E;refine⟨by show 0≠C.k;omega,?_⟩;rcases h e f with⟨m,g,i⟩|⟨a,wr,rfl,_,_⟩
 ·have ⟨j,wr,k⟩:=e;subst g;subst i;cases wr<;>cases k<;>simp[MemAct.ofEvent]
 ·simp[MemAct.ofEvent]
def J2.privA(O:C.Ok)(h:J2 C sent U tb I b a E e t){c}(D:DA C e d X){f}(m:Kr C sent U f c d)(g:f≠0):J2 C sent U tb f b c (woken C.P a c d E) d (t++MemOp.ofEvents 0 a.frame.fn a.frame.place X):=by
 have ⟨k,o,i⟩:=h.ti;rw[i.woken];have ⟨s,r,p,l⟩:=h.ch;have ⟨q,sm,u,v⟩:=h.wg;exact⟨⟨s,r,p,by rwa[D.ch]⟩,⟨q,sm,u,by unfold Dx at *;rwa[D.wg]⟩,⟨k,OK O o D _ _,i.rely D.toB⟩,m,λ_=>g,λx n=>O.6 _ _ _ _ D.keep (h.msgs x n),
  λj=>⟨O.7 _ _ _ D.keep (h.rel j).1,let⟨r,g⟩:=(h.rel j).2;⟨r,g.appOther (Ahm D.ev O.1 _ _)⟩⟩⟩
def J2.wgA(O:C.Ok)(h:J2 C sent U tb I b a E e t){f}(l:∀w∈X,WC C.Wg w){p}(A:d=e∨∃g v,d=e.setCell g v/\g.block=C.Wg)(y:Jz c tb=lj (p,sm))(k:Dx C.ty C.Wg d p sm)(G:xz (dfA U) X=dfA c)(H:Kr C sent c j f d)(u:tb=.qt->j≠0):J2 C sent c tb j b f (woken C.P a f d E) d (t++MemOp.ofEvents 0 a.frame.fn a.frame.place X):=by
 obtain⟨B,z,n⟩:=h.ti;rw[n.woken];obtain⟨s,r,J,P⟩:=h.ch;have q:Gf C.KB e d:=by
  rcases A with rfl|⟨g,v,rfl,i⟩
  ·exact .refl _ _
  ·exact Ka g v λx F K=>by rw[i];exact(O.kb x F K).1
 have L:Mx e d:=by
  rcases A with rfl|⟨g,v,rfl,i⟩
  ·exact .refl _
  ·exact Zv g v
 have D:d.1[C.Ch]?=e.1[C.Ch]?:=by
  rcases A with rfl|⟨g,v,rfl,i⟩
  ·rfl
  ·exact Eg g v (by rw[i];exact dG O.neq)
 have m:=Amb O z L (FQ k) l a.frame.fn a.frame.place;rw[G]at m;exact⟨⟨s,r,J,by rwa[D]⟩,⟨p,sm,y,k⟩,⟨B,m,n.rely ⟨q,λ_=>⟨p,sm,k⟩⟩⟩,H,u,λM N=>O.6 _ _ _ _ q (h.msgs M N),
  λo=>⟨O.7 _ _ _ q (h.rel o).1,let⟨r,u⟩:=(h.rel o).2;⟨r,u.appOther (Ahl l O.1 _ _)⟩⟩⟩
def KW(a):∀e∈(#[CP (Ga a)]:Array Event),WC a e:=λe E=>by
 simp at E;subst E;exact r7 ⟨_,_,iI,iI⟩
def Anv(a):∀e∈(#[CP (Ga a),VZ (Ga a)]:Array Event),WC a e:=λe E=>by
 exact Vy7
def Aki(a):∀e∈semEvents (FJ a),WC a e:=λe E=>by
 exact Scc
def Nx{a g}(h:y C.P km (RA C sent) D0 (StA C sent a) n g w):Kr C sent a (n+1) g w:=r7 ⟨n,iI,Ss (λ_ _ _ d=>D0.da C d) h⟩
def Al1(O:C.Ok)(o:sent.map (·.1)=f)(h:J2 C sent U tb I b a E e t)(M:a.status=.running):StepA C.P C.k a E e t λW Z d t'=>∃S,FY S (Vj U+EZ tb,I+2 * b)/\J C f S W Z d t':=by
 rcases h.sa with⟨n,rfl,N⟩|⟨_,_,g,rfl,_⟩
 rotate_left
 ·cases M
 rcases N.cases with u|⟨p,rfl,P⟩
 rotate_left
 ·obtain⟨g',w1,es,i,D,j⟩:=P e (RA.refl _ _ _);exact r7 ⟨g',w1,es,i,_,.right _ Aa,kr (r7 ⟨sent,U,tb,p+1,b,iI,o,h.privA O D (r7 ⟨p,iI,j⟩) Aa⟩)⟩
 have q:=u e (RA.refl _ _ _);obtain⟨v,sm,i,c⟩:=h.wg;cases U with
 |rc=>
  obtain⟨_,a1,a6,B⟩:=q;obtain⟨m,j⟩:=B e (RA.refl _ _ _);obtain⟨s,r,X,Q⟩:=h.ch;obtain⟨V,z,w⟩:=h.ti;refine kr (kr (kr ⟨core a,C.Ch,a1,#[],s,r,X,a6,Q,?_,_,.left _ _ (cD (show Vj .kd<Vj .rc by decide) _),kr (r7 ⟨sent,.kd,tb,m+1,b,iI,o,?_⟩)⟩))
  ·rcases w.status with F|⟨F,_⟩<;>rw[F]<;>simp
  ·have l:∀H∈(MemOp.ofEvents 0 a.frame.fn a.frame.place #[]++#[({ g:=0,fn:=(core a).frame.fn,pos:=(core a).frame.place,act:=.recvClosed C.Ch }:MemOp)]),H = { g:=0,fn:=(core a).frame.fn,pos:=(core a).frame.place,act:=.recvClosed C.Ch }:=λH l=>by
    simpa[MemOp.ofEvents] using l
   refine⟨⟨s,r,X,Q⟩,⟨v,sm,?_,c⟩,⟨V,VS O z (.refl _) λH T=>?_,w⟩,r7 ⟨m,iI,j⟩,λ_=>Aa,h.msgs,λx=>⟨(h.rel x).1,let⟨r,Y⟩:=(h.rel x).2;⟨r,Y.appOther λH T=>?_⟩⟩⟩
   ·revert i;cases tb<;>exact id
   ·rw[l H T];exact⟨iI,λm=>Ad,Hh Q⟩
   ·rw[l H T];exact⟨by show 0≠C.k;have:=O.1;omega,Ad⟩
 |kd=>
  obtain⟨_,g',k,m,j⟩:=q;exact r7 ⟨g',e,_,k,_,.left _ _ (cD (show Vj .w1<Vj .kd by decide) _),kr (r7 ⟨sent,.w1,tb,m+1,b,iI,o,h.wgA O (λG y=>by simp at y;exact kr (r7 y)) (r7 iI) SB c iI (Nx j) λ_=>Aa⟩)⟩
 |w1=>
  obtain⟨_,R,A⟩:=q;have:(v=KK/\sm=0)∨(v=0/\sm=0/\tb=.qt):=by
   exact D4c
  rcases this with⟨rfl,rfl⟩|⟨rfl,rfl,rfl⟩
  ·obtain⟨g',k,m,j⟩:=R c;exact r7 ⟨g',e,_,k,_,.left _ _ (cD (show Vj .w2<Vj .w1 by decide) _),kr (r7 ⟨sent,.w2,tb,m+1,b,iI,o,h.wgA O (KW _) (r7 iI) SB c iI (Nx j) λ_=>Aa⟩)⟩
  ·obtain⟨g',k,m,j⟩:=A c;exact r7 ⟨g',e,_,k,_,.left _ _ (cD (show Vj .ke<Vj .w1 by decide) _),kr (r7 ⟨sent,.ke,.qt,m+1,b,iI,o,h.wgA O (KW _) (r7 iI) iI c iI (Nx j) λ_=>Aa⟩)⟩
 |w2=>
  obtain⟨_,R,A⟩:=q;have:(v=KK/\sm=0/\Jz .wm tb=lj (KK+1,0)/\tb≠.qt)∨(v=0/\sm=0/\tb=.qt):=by
   exact D4c
  rcases this with⟨rfl,rfl,L,K⟩|⟨rfl,rfl,rfl⟩
  ·obtain⟨g',k,m,j⟩:=R c;exact r7 ⟨g',_,_,k,_,.left _ _ (cD (show Vj .wm<Vj .w2 by decide) _),kr (r7 ⟨sent,.wm,tb,m+1,b,iI,o,h.wgA O (Anv _) (kr ⟨_,_,iI,iI⟩) L (Lq c _) iI (Nx j) λ_=>Aa⟩)⟩
  ·obtain⟨g',k,m,j⟩:=A c;exact r7 ⟨g',e,_,k,_,.left _ _ (cD (show Vj .wz<Vj .w2 by decide) _),kr (r7 ⟨sent,.wz,.qt,m+1,b,iI,o,h.wgA O (KW _) (r7 iI) iI c iI (Nx j) λ_=>Aa⟩)⟩
 |wz=>
  obtain⟨_,A⟩:=q;have:v=0/\sm=0/\tb=.qt:=by
   exact D4c
  obtain⟨rfl,rfl,rfl⟩:=this;obtain⟨g',k,m,j⟩:=A c;exact r7 ⟨g',e,_,k,_,.left _ _ (cD (show Vj .ke<Vj .wz by decide) _),kr (r7 ⟨sent,.ke,.qt,m+1,b,iI,o,h.wgA O (KW _) (r7 iI) iI c iI (Nx j) λ_=>Aa⟩)⟩
 |wm=>
  obtain⟨_,g',k,m,j⟩:=q;exact r7 ⟨g',e,_,k,_,.left _ _ (cD (show Vj .w3<Vj .wm by decide) _),kr (r7 ⟨sent,.w3,tb,m+1,b,iI,o,h.wgA O (λG y=>by simp at y;exact kr (kr (kr (r7 y)))) (r7 iI) SB c iI (Nx j) λ_=>Aa⟩)⟩
 |w3=>
  obtain⟨_,ae,a7,hf⟩:=q;have:(sm=0/\tb≠.qt)∨(v=0/\sm=1/\tb=.qt):=by
   exact D4c
  rcases this with⟨rfl,K⟩|⟨rfl,rfl,rfl⟩
  ·refine r7 ⟨_,e,_,a7 ⟨v,c⟩,_,.right _ Aa,kr (r7 ⟨sent,.w3,tb,0,b,iI,o,h.wgA O Ad (r7 iI) i c iI (kr ⟨iI,iI,a,iI,u⟩) λG=>absurd G K⟩)⟩
  ·obtain⟨g',k,m,j⟩:=hf c;exact r7 ⟨g',_,_,k,_,.left _ _ (cD (show Vj .w4<Vj .w3 by decide) _),kr (r7 ⟨sent,.w4,.qt,m+1,b,iI,o,h.wgA O (Aki _) (kr ⟨_,_,iI,iI⟩) iI (JL c _) iI (Nx j) λ_=>Aa⟩)⟩
 |w4=>
  obtain⟨_,A⟩:=q;have:v=0/\sm=0/\tb=.qt:=by
   exact D4c
  obtain⟨rfl,rfl,rfl⟩:=this;obtain⟨g',k,m,j⟩:=A c;exact r7 ⟨g',e,_,k,_,.left _ _ (cD (show Vj .ke<Vj .w4 by decide) _),kr (r7 ⟨sent,.ke,.qt,m+1,b,iI,o,h.wgA O (KW _) (r7 iI) iI c iI (Nx j) λ_=>Aa⟩)⟩
 |ke=>
  obtain⟨_,g',k,m,j⟩:=q;exact r7 ⟨g',e,_,k,_,.left _ _ (cD (show Vj .ac<Vj .ke by decide) _),kr (r7 ⟨sent,.ac,tb,m+1,b,iI,o,h.wgA O (λG y=>by simp at y;exact kr (kr (r7 y))) (r7 iI) SB c iI (Nx j) λ_=>Aa⟩)⟩
 |ac=>
  obtain⟨_,g',k,a8,aa⟩:=q;have K:tb=.qt:=by cases tb<;>simp[Jz]at i<;>rfl
  subst K;obtain⟨ab,r,ad⟩:=h.rel Ad;obtain⟨V,z,w⟩:=h.ti;refine r7 ⟨g',e,_,k,(0,0),.left _ _ (show 0<Vj .ac+EZ .qt by decide),r7 ⟨iI,a8,z.join O.1 ad _ _ (FQ c),?_,⟨sent,o,aa,ab,h.msgs⟩,⟨⟨_,_,c⟩,h.ch⟩⟩⟩;rw[w.woken];rcases w with⟨F,_⟩|⟨_,af⟩
  ·exact absurd iI F
  ·refine⟨b,?_⟩
   rwa[zl t (g:=C.k) (g':=0) (by have:=O.1;omega) _ (λH l=>B9 l),z.6]
end
section
variable {C:BR} {f:List C.β} {sent:List (C.β×O)} {a:T} {U c:AT} {tb tb':BT} {I:Nat} {W:List C.β}
def NH(O:C.Ok){a}(b:a.block=C.Wg)(c:D9 C.ty C.Wg e->D9 C.ty C.Wg (e.setCell a v)):RA C sent e (e.setCell a v):=
 Aem O (Ka a v λi o k=>by rw[b];exact(O.ka i o k).1) (Ka a v λi o k=>by rw[b];exact(O.kb i o k).1) c
def J2.privB(O:C.Ok)(h:J2 C sent U tb I b a E e t)(k:tb≠.qt){J}(D:DB C sent e d X)(i:tb≠.r0->X=#[]/\d=e)(y:o2 C.P sd (RB C) (DBt C sent tb) (StB C sent tb) n J d):∃f,f<=I+1/\J2 C sent U tb f (n+1) (woken C.P E J d a) J d (t++MemOp.ofEvents C.k E.frame.fn E.frame.place X):=by
 obtain⟨u,p,m⟩:=h.ti;obtain⟨s,r,F,A⟩:=h.ch;obtain⟨j,K,o,H⟩:=h.wg;obtain⟨f,q,B,l⟩:=(h.sa.rely D.toA).woken (P:=C.P) E J d;have w:u=dfB tb:=by
  rcases m with⟨_,c,_⟩|⟨c,_⟩
  ·exact c
  ·exact absurd c k
 refine⟨f,q,⟨s,r,F,by rwa[D.ch]⟩,⟨j,K,o,by unfold Dx at *;rwa[D.wg]⟩,⟨u,OL O p D _ _,r7 ⟨k,w,n,iI,y⟩⟩,l,λc=>absurd c k,λx v=>D.msg x v (h.msgs x v),λg=>?_⟩;obtain⟨z,r,G⟩:=h.rel g;refine⟨(i g).2▸z,r,?_⟩;rw[(i g).1];simpa[MemOp.ofEvents] using G
def J2.wgB(O:C.Ok)(h:J2 C sent U tb I b a E e t){b' es}(z:∀f∈es,WE C.Wg f){q u}(F:d=e∨∃i v,d=e.setCell i v/\i.block=C.Wg)(D:Jz U tb'=lj (u,sm))(l:Dx C.ty C.Wg d u sm)(M:tb≠.qt)(L:xz (dfB tb) es=j)(N:Pl C sent tb' q j b' d)(A:tb'=.qt->(U=.wm∨U=.w3)->(p8 C.P E&&b'.status != .blocked&&b'.status != .waiting)=km)(hrel:C.FB sent d/\∃r,RI C.k C.Wg (t++MemOp.ofEvents C.k E.frame.fn E.frame.place es) r):∃c,J2 C sent U tb' c q (woken C.P E b' d a) b' d (t++MemOp.ofEvents C.k E.frame.fn E.frame.place es):=by
 obtain⟨H,K,B⟩:=h.ti;obtain⟨s,r,P,T⟩:=h.ch;have Q:H=dfB tb:=by
  rcases B with⟨_,f,_⟩|⟨f,_⟩
  ·exact f
  ·exact absurd f M
 have n:RA C sent e d:=by
  rcases F with rfl|⟨i,v,rfl,g⟩
  ·exact RA.refl _ _ _
  ·exact NH O g λ_=>⟨u,sm,l⟩
 have J:Mx e d:=by
  rcases F with rfl|⟨i,v,rfl,g⟩
  ·exact .refl _
  ·exact Zv i v
 have R:d.1[C.Ch]?=e.1[C.Ch]?:=by
  rcases F with rfl|⟨i,v,rfl,g⟩
  ·rfl
  ·exact Eg i v (by rw[g];exact dG O.neq)
 have p:=JJ O K J (FQ l) z E.frame.fn E.frame.place;rw[Q,L]at p;have o:=h.sa.rely n;have S:∃c,(tb'=.qt->c≠0)/\Kr C sent U c (woken C.P E b' d a) d:=by
  by_cases w:tb'=.qt
  ·by_cases y:U=.wm∨U=.w3
   ·obtain⟨c,m,k⟩:=o.wakes (P:=C.P) d (A w y);exact⟨c,λ_=>m,k⟩
   ·have:I≠0:=by
     rcases o.status with⟨_,x⟩|⟨_,_,x⟩
     ·exact x
     ·exact absurd (kr x) y
    obtain⟨c,_,m,k⟩:=o.woken (P:=C.P) E b' d;exact⟨c,λ_=>m this,k⟩
  ·obtain⟨c,_,_,k⟩:=o.woken (P:=C.P) E b' d;exact⟨c,λf=>absurd f w,k⟩
 obtain⟨c,m,k⟩:=S;exact⟨c,⟨s,r,P,by rwa[R]⟩,⟨u,sm,D,l⟩,⟨j,p,N⟩,k,m,λx G=>n.msg x G (h.msgs x G),λ_=>hrel⟩
def Akj(a):∀e∈(#[CP (Ga a)]:Array Event),WE a e:=λe E=>by simp at E;subst E;exact r7 ⟨_,_,iI,iI⟩
def Akk(a):∀e∈(#[VZ (Ga a)]:Array Event),WE a e:=λe E=>by simp at E;subst E;exact r7 ⟨_,_,iI,iI⟩
def QE(a):∀e∈(#[CP (Ga a),VZ (Ga a)]:Array Event),WE a e:=λe E=>by
 exact Vy7
def Ag3(a):∀e∈semEvents (FJ a),WE a e:=λe E=>by
 exact Scc
def Wp(h:RI C.k C.Wg t r)(d:vp t C.k=1)(b:X=#[CP (Ga C.Wg)]∨X=#[VZ (Ga C.Wg)]∨X=#[CP (Ga C.Wg),VZ (Ga C.Wg)]∨X=semEvents (FJ C.Wg))(u c):RI C.k C.Wg (t++MemOp.ofEvents C.k u c X) r:=by
 refine h.appOwn u c X (λe a=>?_) (λj e a=>?_)
 ·rcases b with rfl|rfl|rfl|rfl<;>simp[semEvents,CP,VZ]at a
  ·subst a;simp
  ·subst a;simp
  ·rcases a with rfl|rfl<;>simp
  grind
 ·rw[d];rcases b with rfl|rfl|rfl|rfl
  ·match j,a with
   |0,a=>simp at a;subst a;exact kr ⟨⟨_,_,iI,iI⟩,by simp[xz]⟩
  ·match j,a with
   |0,a=>simp at a;subst a;exact kr ⟨⟨_,_,iI,iI⟩,by simp[xz]⟩
  ·match j,a with
   |0,a=>simp at a;subst a;exact kr ⟨⟨_,_,iI,iI⟩,by simp[xz]⟩
   |1,a=>simp at a;subst a;exact kr ⟨⟨_,_,iI,iI⟩,by simp[xz,CP]⟩
  ·match j,a with
   |0,a=>simp[semEvents]at a;subst a;exact r7 iI
   |1,a=>simp[semEvents]at a;subst a;exact kr ⟨⟨_,_,iI,iI⟩,by simp[xz,semEvents]⟩
   |2,a=>simp[semEvents]at a;subst a;exact kr ⟨⟨_,_,iI,iI⟩,by simp[xz,semEvents]⟩
   |3,a=>simp[semEvents]at a;subst a;exact r7 iI
def Vb(a)(b:a≠.qt)(c:a≠.r0)(h:y C.P sd (RB C) D0 (StB C sent a) n g w):Pl C sent a (n+1) (dfB a) g w:=by
 refine r7 ⟨b,iI,n,iI,?_⟩;cases a<;>first|exact absurd iI c|exact h
def VY(h:p8 P g=km)(a:R.status=.running∨R.status=.finished):(p8 P g&&R.status != .blocked&&R.status != .waiting)=km:=by
 grind
def Al2(O:C.Ok)(o:sent.map (·.1)=f)(h:J2 C sent U tb I b a E e t)(W:E.status=.running):StepB C.P C.k a E e t λa' b' d t'=>∃X,FY X (Vj U+EZ tb,I+2 * b)/\J C f X a' b' d t':=by
 obtain⟨dB,y,P⟩:=h.ti;have af:=P;obtain⟨M,sm,i,l⟩:=h.wg;rcases P with⟨H,rfl,n,rfl,hg⟩|⟨rfl,A⟩
 rotate_left
 ·
  cases b with
  |zero=>rw[A.1]at W;cases W
  |succ m=>
   rcases A with⟨hf,_⟩|⟨_,R,es,u,j,a1⟩
   ·grind
   ·obtain⟨s,r,tm,hc⟩:=h.ch;obtain⟨c,a6,a7,a8⟩:=h.sa.woken (P:=C.P) E R e;refine r7 ⟨R,e,es,j e,_,.right (b₂:=I+2 * (m+1)) _ (show c+2 * m<I+2 * (m+1) by omega),kr (r7 ⟨sent,U,.qt,c,m,iI,o,⟨s,r,tm,hc⟩,⟨M,sm,i,l⟩,⟨_,?_,kr ⟨iI,a1⟩⟩,a8,λ_=>a7 (h.nb iI),h.msgs,λY=>⟨(h.rel Y).1,?_⟩⟩)⟩
    ·refine y.appB O.parts O.1 (.refl e) (λop G=>B9 G) (λop G x Z _=>?_) ?_ (λop G=>?_)
     ·exact Csy
     ·rw[xh,y.6]
     ·obtain⟨g,N,rfl⟩:=py G;exact low_mute (u g N) _
    ·obtain⟨r,B⟩:=(h.rel Y).2;refine⟨r,B.appOwn _ _ _ (λg N x=>?_) λT g N=>r7 (touch_mute (u g (cF N)))⟩;have:=u g N;obtain⟨ah,wr,sy⟩:=g;simp only at x;subst x;simp[Event.mute]at this
 rcases hg.cases with aa|⟨Q,rfl,ab⟩
 rotate_left
 ·obtain⟨R,w1,es,ad,D,F⟩:=ab e (RB.refl _ _);obtain⟨c,a6,z⟩:=h.privB O H D.db (λhn=>D.nil hn) F;exact r7 ⟨R,w1,es,ad,_,.right _ (show c+2 * (Q+1)<I+2 * (Q+1+1) by omega),kr (r7 ⟨sent,U,tb,c,Q+1,iI,o,z⟩)⟩
 have k:=aa e (RB.refl _ _);cases tb with
 |qt=>exact absurd iI H
 |r0=>
  obtain⟨_,p,R,j,m,F⟩:=k;obtain⟨c,z⟩:=h.wgB O (tb':=.k1) (es:=#[R9 (.releaseMerge (Ga C.Wg))]) (λg N=>by simp at N;exact kr (kr (kr N))) (r7 iI) (by revert i;cases U<;>exact id) l H iI (Vb .k1 Ad Ad F) Am8 ⟨p,_,RI.new y.6 _ _⟩;exact r7 ⟨R,e,_,j,_,.left _ _ (dH (show EZ .k1<EZ .r0 by decide) _),kr (r7 ⟨sent,U,.k1,c,m+1,iI,o,z⟩)⟩
 |k1=>
  obtain⟨_,R,j,m,F⟩:=k;obtain⟨p,r,B⟩:=h.rel Ad;obtain⟨c,z⟩:=h.wgB O (tb':=.d1) (b':=R) (es:=#[R9 .disable]) (λg N=>by simp at N;exact kr (r7 N)) (r7 iI) (by revert i;cases U<;>exact id) l H iI (Vb .d1 Ad Ad F) Am8
   ⟨p,r,B.appOwn _ _ _ (λg N=>by simp at N;subst N;simp[R9]) λT g N=>r7 SC⟩
  exact r7 ⟨R,e,_,j,_,.left _ _ (dH (show EZ .d1<EZ .k1 by decide) _),kr (r7 ⟨sent,U,.d1,c,m+1,iI,o,z⟩)⟩
 |d1=>
  obtain⟨_,hK,ae⟩:=k;obtain⟨p,r,B⟩:=h.rel Ad;have:(M=KK/\sm=0/\Jz U .qt=lj (0,0)/\U≠.wm/\U≠.w3)∨(M=KK+1/\sm=0/\Jz U .d2=lj (1,0)):=by
   exact K5n
  rcases this with⟨rfl,rfl,L,K,n2⟩|⟨rfl,rfl,L⟩
  ·obtain⟨R,j,S,A⟩:=hK l;obtain⟨c,z⟩:=h.wgB O (tb':=.qt) (QE _) (kr ⟨_,_,iI,iI⟩) L (Lq l 0) H iI (kr ⟨iI,A⟩) (λ_ g=>g.elim (λg=>absurd g K) (λg=>absurd g n2))
    ⟨O.7 _ _ _ (Ka _ _ λq v w=>(O.kb q v w).1) p,r,Wp B y.6 (kr (kr (r7 iI))) _ _⟩
   exact r7 ⟨R,_,_,j,_,.left _ _ (dH (show EZ .qt<EZ .d1 by decide) _),kr (r7 ⟨sent,U,.qt,c,S,iI,o,z⟩)⟩
  ·obtain⟨R,j,m,F⟩:=ae l;obtain⟨c,z⟩:=h.wgB O (tb':=.d2) (QE _) (kr ⟨_,_,iI,iI⟩) L (Lq l 1) H iI (Vb .d2 Ad Ad F) Am8
    ⟨O.7 _ _ _ (Ka _ _ λq v w=>(O.kb q v w).1) p,r,Wp B y.6 (kr (kr (r7 iI))) _ _⟩
   exact r7 ⟨R,_,_,j,_,.left _ _ (dH (show EZ .d2<EZ .d1 by decide) _),kr (r7 ⟨sent,U,.d2,c,m+1,iI,o,z⟩)⟩
 |d2=>
  obtain⟨_,k⟩:=k;obtain⟨p,r,B⟩:=h.rel Ad;have:M=1/\sm=0/\Jz U .d3=lj (1,0):=by
   exact K5n
  obtain⟨rfl,rfl,L⟩:=this;obtain⟨R,j,m,F⟩:=k l;obtain⟨c,z⟩:=h.wgB O (tb':=.d3) (Akj _) (r7 iI) L l H iI (Vb .d3 Ad Ad F) Am8 ⟨p,r,Wp B y.6 (r7 iI) _ _⟩;exact r7 ⟨R,_,_,j,_,.left _ _ (dH (show EZ .d3<EZ .d2 by decide) _),kr (r7 ⟨sent,U,.d3,c,m+1,iI,o,z⟩)⟩
 |d3=>
  obtain⟨_,k⟩:=k;obtain⟨p,r,B⟩:=h.rel Ad;have:M=1/\sm=0/\Jz U .d4=lj (0,0):=by
   exact K5n
  obtain⟨rfl,rfl,L⟩:=this;obtain⟨R,j,m,F⟩:=k ⟨_,l⟩;obtain⟨c,z⟩:=h.wgB O (tb':=.d4) (Akk _) (kr ⟨_,_,iI,iI⟩) L (Lq l 0) H iI (Vb .d4 Ad Ad F) Am8 ⟨O.7 _ _ _ (Ka _ _ λq v w=>(O.kb q v w).1) p,r,Wp B y.6 (kr (r7 iI)) _ _⟩;exact r7 ⟨R,_,_,j,_,.left _ _ (dH (show EZ .d4<EZ .d3 by decide) _),kr (r7 ⟨sent,U,.d4,c,m+1,iI,o,z⟩)⟩
 |d4=>
  obtain⟨_,k⟩:=k;obtain⟨p,r,B⟩:=h.rel Ad;have:M=0/\sm=0/\Jz U .qt=lj (0,1):=by
   exact K5n
  obtain⟨rfl,rfl,L⟩:=this;obtain⟨R,j,V,S,A⟩:=k ⟨_,l⟩;obtain⟨c,z⟩:=h.wgB O (tb':=.qt) (Ag3 _) (kr ⟨_,_,iI,iI⟩) L (JL l 1) H iI (kr ⟨iI,A⟩) (λ_ _=>VY V A.status)
   ⟨O.7 _ _ _ (Ka _ _ λq v w=>(O.kb q v w).1) p,r,Wp B y.6 (kr (kr (kr iI))) _ _⟩
  exact r7 ⟨R,_,_,j,_,.left _ _ (dH (show EZ .qt<EZ .d4 by decide) _),kr (r7 ⟨sent,U,.qt,c,S,iI,o,z⟩)⟩
end
section
variable {C:BR} {f:List C.β} {sent:List (C.β×O)} {a:T} {I:Nat} {bs:List C.β}
def IN(O:C.Ok){o}(a:Qf o:=by trivial):RA C sent w { w with heap:=w.1.setIfInBounds C.Ch o }/\RB C w { w with heap:=w.1.setIfInBounds C.Ch o }:=by
 have E:D9 C.ty C.Wg w->D9 C.ty C.Wg { w with heap:=w.1.setIfInBounds C.Ch o }:=Pn (Lz O.neq);exact⟨Aem O (Vy a λi o k=>(O.ka i o k).2) (Vy a λi o k=>(O.kb i o k).2) E,⟨Vy a λi o k=>(O.kb i o k).2,E⟩⟩
def Kn.again{cs c}(h:Kn C bs sent g w):Kn C bs sent { tz (core g) cs c with status:=.running } w:=by
 have e:stepG C.P km _ w=stepG C.P km g w:=stepG_same iI iI iI w;cases bs<;>exact let⟨_,z,a,E⟩:=h;⟨iI,z,by exact a,E⟩
def Adi{J a}(h:sent.map (·.1)++J::a=f):(sent++[(J,v)]).map (·.1)++a=f:=by
 simpa using h
def meets(O:C.Ok)(j:J1 C sent bs I b a E w t){d e}(y:bs=d::e)(A:sent.map (·.1)++bs=f){c}(z:w.1[C.Ch]?=lj (.chan 0 #[] sd s r c)){i}(o:FU C e (sent++[(d,v)]) g (w.setChan C.Ch 0 #[] sd (s+1) (r+1) c))(p:Yv C e (sent++[(d,v)]) i (w.setChan C.Ch 0 #[] sd (s+1) (r+1) c))(B:C.12 d v w)(D:∀q∈u,q.act.touch? = jh/\(∀m,q.act≠.mark m)/\q.act.low (w.setChan C.Ch 0 #[] sd (s+1) (r+1) c).1.size){x}:∃l,FY l (iK bs+40,x)/\J C f l g i (w.setChan C.Ch 0 #[] sd (s+1) (r+1) c) (t++u):=by
 obtain⟨n,o⟩:=(PN C _ _ _ _).1 o;obtain⟨m,p⟩:=(PR C _ _ _ _).1 p;subst y;have k:=IN (C:=C) (sent:=sent) (w:=w) O (o:=.chan 0 #[] sd (s+1) (r+1) c);refine⟨(iK e+40,(n+1)+2 * (m+1)),.left _ _ Ad,kr (kr ⟨e,sent++[(d,v)],n+1,m+1,iI,Adi A,⟨s+1,r+1,c,Uy (Hh z)⟩,?_,VS O j.ti (Zu z iI) D,r7 ⟨n,iI,o⟩,r7 ⟨m,iI,p⟩,Aa,λF h=>?_⟩)⟩
 ·have:=j.wg;unfold Dx at this⊢;rw[←this];exact Lz O.neq
 ·rcases bP.1 h with h|h
  ·exact O.6 _ _ _ _ k.2.keep (j.msgs F h)
  ·simp at h;subst h;exact O.6 _ _ _ _ k.2.keep B
def KP{x y z u c s r cap}(d:c<F w.1)(h:x.act=.send c s)(i:y.act=.recv c r cap)(j:z.act=.sendDone c s)(k:u.act=.recvDone c r){g b e}:∀f∈MemOp.ofEvents g b e #[]++#[x,y,z,u],f.act.touch? = jh/\(∀m,f.act≠.mark m)/\f.act.low w.1.size:=λf a=>by
 simp[MemOp.ofEvents]at a;rcases a with rfl|rfl|rfl|rfl
 ·rw[h];exact⟨iI,Ad,d⟩
 ·rw[i];exact⟨iI,Ad,d⟩
 ·rw[j];exact⟨iI,Ad,d⟩
 ·rw[k];exact⟨iI,Ad,d⟩
def UY{g u a}:t++MemOp.ofEvents g u a #[]=t:=by simp[MemOp.ofEvents]
def stepA1(O:C.Ok)(c:sent.map (·.1)++bs=f)(h:J1 C sent bs I b a E w t)(M:a.status=.running):StepA C.P C.k a E w t λq g d Q=>∃y,FY y (iK bs+40,I+2 * b)/\J C f y q g d Q:=by
 obtain⟨s,r,k,j⟩:=h.ch;rcases h.sa with⟨n,rfl,N⟩|⟨_,W,z,rfl,_⟩
 rotate_left
 ·cases M
 rcases N.cases with u|⟨p,rfl,P⟩
 rotate_left
 ·obtain⟨R,H,X,A,D,x⟩:=P w (RA.refl _ _ _);have l:H.1[C.Ch]?=lj (.chan 0 #[] sd s r k):=by rwa[D.ch]
  refine r7 ⟨R,H,X,A,_,.right _ (show(p+1)+2 * b<(p+1+1)+2 * b by omega),kr (kr ⟨bs,sent,p+1,b,iI,c,⟨s,r,k,l⟩,by have:=h.wg;unfold Dx at *;rwa[D.wg],OK O h.ti D _ _,r7 ⟨p,iI,x⟩,?_,Aa,λG K=>O.6 _ _ _ _ D.keep (h.msgs G K)⟩)⟩;have L:=h.sb.rely O D.toB
  rwa[L.woken l]
 have B:=u w (RA.refl _ _ _);obtain⟨_,z,o⟩:=Kn.comm C B;rcases h.sb with⟨m,rfl,i⟩|⟨rfl,g,Y,S,v,T,rfl,rfl,F,U⟩
 ·
  refine kr (r7 ⟨core a,C.Ch,z,#[],s,r,k,o,j,?_,_,.right _ (show 0+2 * (m+1)<(n+1)+2 * (m+1) by omega),kr (kr ⟨bs,sent,0,m+1,iI,c,⟨s,r,k,j⟩,h.wg,h.ti,kr ⟨iI,a,z,iI,u⟩,r7 ⟨m,iI,i⟩,Aa,h.msgs⟩)⟩)
  ·rw[i.running (λ_ _=>Yw.running C) w (RB.refl _ _)];simp
 ·
  obtain⟨_,Z,a1,V⟩:=B;have e:=IN (sent:=sent) (w:=w) O (o:=.chan 0 #[] sd (s+1) (r+1) k);refine kr (kr (r7 ⟨core a,C.Ch,z,#[],s,r,k,core S,v,T,o,j,iI,meets O h iI c j (V v _ e.1 (O.6 _ _ _ _ e.2.keep F)) (U _ e.2) F (KP (c:=C.Ch) (s:=s) (r:=r) (cap:=0) ?_ iI iI iI iI)⟩));have:=Hh j;simpa[World.setChan] using this
def stepB1(O:C.Ok)(m:sent.map (·.1)++bs=f)(h:J1 C sent bs I b a E w t)(N:E.status=.running):StepB C.P C.k a E w t λS p d T=>∃P,FY P (iK bs+40,I+2 * b)/\J C f P S p d T:=by
 obtain⟨s,r,k,u⟩:=h.ch;rcases h.sb with⟨n,rfl,Z⟩|⟨_,_,_,g,v,z,_,rfl,_⟩
 rotate_left
 ·cases N
 rcases Z.cases with a1|⟨x,rfl,B⟩
 rotate_left
 ·obtain⟨R,H,X,a6,D,A⟩:=B w (RB.refl _ _);have i:H.1[C.Ch]?=lj (.chan 0 #[] sd s r k):=by rwa[D.ch]
  refine r7 ⟨R,H,X,a6,_,.right _ (show I+2 * (x+1)<I+2 * (x+1+1) by omega),kr (kr ⟨bs,sent,I,x+1,iI,m,⟨s,r,k,i⟩,by have:=h.wg;unfold Dx at *;rwa[D.wg],OL O h.ti D _ _,?_,r7 ⟨x,iI,A⟩,Aa,λy Q=>D.msg y Q (h.msgs y Q)⟩)⟩;have F:=h.sa.rely D.toA
  rwa[F.woken i]
 have Y:=a1 w (RB.refl _ _);cases bs with
 |nil=>
  obtain⟨_,V,a7⟩:=Y;obtain⟨G,a8,aa,K,A⟩:=a7 s r k u;have c:=IN (C:=C) (sent:=sent) (w:=w) O (o:=.chan 0 #[] km s r k);have i:(w.shut C.Ch s r k).1[C.Ch]?=lj (.chan 0 #[] km s r k):=Uy (Hh u);have ab:∃q,q≠0/\Kr C sent .rc q (woken C.P E G (w.shut C.Ch s r k) a) (w.shut C.Ch s r k):=by
   rcases h.sa.rely c.1 with⟨e,rfl,l⟩|⟨_,g,z,rfl,W⟩
   ·rw[Dz (r7 (l.running (λ_ _=>Kn.running) _ (RA.refl _ _ _)))];exact⟨e+1,Aa,r7 ⟨e,iI,l⟩⟩
   ·refine⟨1,Aa,r7 ⟨0,iI,λad ae=>?_⟩⟩;have j:woken C.P E G (w.shut C.Ch s r k) (tz (core g) #[vx C.Ch z] (.recv km)) = { tz (core g) #[vx C.Ch z] (.recv km) with status:=.running }:=by
     unfold woken;rw[aL (VY V (r7 aa))];exact again_recv_closed i
    rw[j];exact Kn.again (bs:=[]) (W ad ae)
  obtain⟨q,af,F⟩:=ab;refine r7 ⟨G,_,_,a8,(Vj .rc+EZ .r0,q+2 * (K+1)),.left _ _ (by simp[Vj,EZ]),kr (r7 ⟨sent,.rc,.r0,q,K+1,iI,(by simpa using m),⟨s,r,k,i⟩,⟨KK,0,iI,?_⟩,⟨0,OJ O h.ti (show Mx w (w.shut C.Ch s r k) from Zu u iI) (Hh i) _ _,r7 ⟨Ad,iI,K,iI,A⟩⟩,F,(λj=>by cases j),λy Q=>O.6 _ _ _ _ c.2.keep (h.msgs y Q),λj=>absurd iI j⟩)⟩;have:=h.wg;unfold Dx at this⊢;rw[←this];exact Lz O.neq
 |cons p L=>
  obtain⟨_,v,z,M,U,o⟩:=Y;rcases h.sa with⟨e,rfl,l⟩|⟨rfl,g,za,rfl,W⟩
  ·refine kr (r7 ⟨core E,C.Ch,v,z,#[],s,r,k,M,u,?_,_,.right _ (show(e+1)+2 * 0<(e+1)+2 * (n+1) by omega),kr (kr ⟨p::L,sent,e+1,0,iI,m,⟨s,r,k,u⟩,h.wg,?_,r7 ⟨e,iI,l⟩,kr ⟨iI,p,L,E,v,z,iI,iI,U,o⟩,Aa,h.msgs⟩)⟩)
   ·rw[l.running (λ_ _=>Kn.running) w (RA.refl _ _ _)];simp
   ·rw[UY];exact h.ti
  ·obtain⟨_,z',ah,hA⟩:=W w (RA.refl _ _ _);have c:=IN (C:=C) (sent:=sent) (w:=w) O (o:=.chan 0 #[] sd (s+1) (r+1) k);refine kr (kr ⟨core E,C.Ch,v,z,#[],s,r,k,core g,za,M,u,iI,meets O h iI m u (hA v _ c.1 (O.6 _ _ _ _ c.2.keep U)) (o _ c.2) U (KP (c:=C.Ch) (s:=s) (r:=r) (cap:=0) ?_ iI iI iI iI)⟩);have:=Hh u;simpa[World.setChan] using this
end
open Go.ConcN (sumTo upd sumTo_upd upd_ne upd_same)
section
variable {C:BR} {f:List C.β} {a:T} {b:Nat×Nat}
def Fin.at(O:C.Ok)(h:Fin C f a E e t)(i):Fin C f a E (e.at i) t:=
 ⟨h.run,h.past,h.3,let⟨s,c,b,g,d⟩:=h.post;⟨s,c,(O.8 _ _ _ _).2 b,O.7 _ _ _ (.at _ _ _) g,λx j=>O.6 _ _ _ _ (.at _ _ _) (d x j)⟩,h.shut⟩
def Gf.back(K:Nat->Obj->Prop)(w d):Gf K (w.at d) w:=⟨iI,iI,iI,aC _,λ_ _ h _=>h,λ_ _ h _=>h⟩
def Fin.back(O:C.Ok)(i)(h:Fin C f a E (e.at i) t):Fin C f a E e t:=
 ⟨h.run,h.past,h.3,let⟨s,c,b,g,d⟩:=h.post;⟨s,c,(O.8 _ _ _ _).1 b,O.7 _ _ _ (.back _ _ i) g,λx j=>O.6 _ _ _ _ (.back _ _ i) (d x j)⟩,h.shut⟩
def J.at(O:C.Ok)(d)(h:J C f b a E e t):J C f b a E (e.at d) t:=by
 rcases h with⟨c,h⟩|⟨q,m,n,j,r,c,g,h⟩|⟨W,q,j,r,c,g,h⟩
 ·exact r7 ⟨c,h.at O d⟩
 ·have ⟨l,o,p⟩:=h.ti;exact kr (r7 ⟨q,m,n,j,r,c,g,h.ch,h.wg,⟨l,o.at O d,p.rely (Ajb d)⟩,h.sa.rely (Aja O d),h.nb,λx i=>O.6 _ _ _ _ (.at _ _ _) (h.msgs x i),λk=>⟨O.7 _ _ _ (.at _ _ _) (h.rel k).1,(h.rel k).2⟩⟩)
 ·exact kr (kr ⟨W,q,j,r,c,g,h.ch,h.wg,h.ti.at O d,h.sa.rely (Aja O d),h.sb.rely O (Ajb d),h.nb,λx i=>O.6 _ _ _ _ (.at _ _ _) (h.msgs x i)⟩)
def J.mute(O:C.Ok){u o}(j:i≠0)(q:i≠C.k)(L:∀m∈X,Event.mute m=km)(h:J C f b a E e t):J C f b a E e (t++MemOp.ofEvents i u o X):=by
 rcases h with⟨m,h⟩|⟨g,A,B,p,P,m,c,h⟩|⟨Z,g,p,P,m,c,h⟩
 ·refine r7 ⟨m,h.run,h.past.mute j L,?_,h.post,h.shut⟩;rw[zl t q _ (λH T=>B9 T)];exact h.3
 ·have ⟨s,l,k⟩:=h.ti;refine kr (r7 ⟨g,A,B,p,P,m,c,h.ch,h.wg,⟨s,Wv O l j q L _ _,k⟩,h.sa,h.nb,h.msgs,λx=>⟨(h.rel x).1,let⟨r,Y⟩:=(h.rel x).2;⟨r,Y.appOther λH T=>?_⟩⟩⟩);obtain⟨m,N,rfl⟩:=py T;refine⟨q,λy=>?_⟩;have:=L m N;have ⟨n,wr,G⟩:=m;cases n with
  |mark d=>
   cases wr<;>cases G<;>simp[MemAct.ofEvent]at y<;>subst y<;>simp[Event.mute]at this
  |_=>simp[Event.mute]at this
 ·exact kr (kr ⟨Z,g,p,P,m,c,h.ch,h.wg,Wv O h.ti j q L _ _,h.sa,h.sb,h.nb,h.msgs⟩)
def J.wake(O:C.Ok)(g R)(h:J C f b a E e t):∃l,J C f l (woken C.P g R e a) (woken C.P g R e E) e t:=by
 rcases h with⟨c,h⟩|⟨z,u,v,o,P,c,d,h⟩|⟨W,z,o,P,c,d,h⟩
 ·have ⟨n,q⟩:=h.3;refine⟨(0,0),r7 ⟨iI,?_⟩⟩
  rwa[Dz (r7 h.run),wu q]
 ·have ⟨p,j,i⟩:=h.ti;obtain⟨k,_,r,w⟩:=h.sa.woken g R e;refine⟨_,kr (r7 ⟨z,u,v,k,P,iI,d,h.ch,h.wg,⟨p,j,?_⟩,w,λc=>r (h.nb c),h.msgs,h.rel⟩)⟩
  rwa[i.woken]
 ·obtain⟨s,x,y,m⟩:=h.ch;refine⟨_,kr (kr ⟨W,z,o,P,iI,d,h.ch,h.wg,h.ti,?_,?_,h.nb,h.msgs⟩)⟩
  ·rw[h.sa.woken m];exact h.sa
  ·rw[h.sb.woken m];exact h.sb
def J.awake(k:J C f b a E e t):awake a/\awake E/\(a.status=.running∨E.status=.running):=by
 have d:∀{h},(h.status=.running∨h.status=.blocked∨h.status=.finished)->Conc.awake h:=λk t g=>by
  grind
 rcases k with⟨g,k⟩|⟨y,s,u,q,P,g,o,k⟩|⟨W,y,q,P,g,o,k⟩
 ·obtain⟨n,l⟩:=k.3;exact⟨d (r7 k.run),d (l.status.imp id kr),r7 k.run⟩
 ·obtain⟨v,w,i⟩:=k.ti;rcases k.sa.status with⟨c,p⟩|⟨c,m,_⟩
  ·exact⟨d (r7 c),d (i.status.imp id λx=>kr x.1),r7 c⟩
  ·rcases i.status with j|⟨j,l⟩
   ·grind
   ·exact absurd m (k.nb l)
 ·rcases k.sa.status with⟨c,p⟩|⟨c,m⟩
  ·exact⟨d (r7 c),d (k.sb.status.imp (·.1) λx=>r7 x.1),r7 c⟩
  ·rcases k.sb.status with⟨j,_⟩|⟨j,r⟩
   ·grind
   ·exact absurd ⟨m,r⟩ k.nb
def J.step(O:C.Ok)(h:J C f b a E e t):Fin C f a E e t∨((a.status=.running->StepA C.P C.k a E e t λl g B i=>∃d,FY d b/\J C f d l g B i)/\(E.status=.running->StepB C.P C.k a E e t λl g B i=>∃d,FY d b/\J C f d l g B i)):=by
 rcases h with⟨k,h⟩|⟨o,m,n,j,P,rfl,c,h⟩|⟨W,o,j,P,rfl,c,h⟩
 ·exact r7 h
 ·exact kr ⟨Al1 O c h,Al2 O c h⟩
 ·exact kr ⟨stepA1 O c h,stepB1 O c h⟩
end
open Go.ConcN (sumTo upd sumTo_upd upd_ne upd_same)
structure Kq(Shun:gW)(B d t):Prop where
 clean:∀said,¬Race said t
 known:∀i a,om t i=lj a->a.loc.isMemory=km->Knows t 0 i∨(Shun a.loc/\a.kind=.atomic)
 over:t.HandedOver
 hears:vp t 0=d
 seen:∀op∈t,op.act.low B
def Kq.of{p:gW}(h:Past p B t):Kq p B 0 t:=⟨h.clean,h.known,h.over,h.hears,h.seen⟩
def Kq.to{p}(h:Kq p B 0 t):Past p B t:=⟨h.clean,h.known,h.over,h.hears,h.seen⟩
def EvD(Shun:gW)(B:Nat)(e:Event):Prop:=(∀x,(MemAct.ofEvent e).touch? = lj x->Shun x.loc->x.kind≠.plain)/\(MemAct.ofEvent e).low B
section
variable {p:gW} {G d:Nat}
def Kq.mono(h:Kq p B d t)(b:B<=G):Kq p G d t:=⟨h.clean,h.known,h.over,h.hears,λc a=>MemAct.low_mono b (h.seen c a)⟩
def Kq.own(h:Kq p B d t)(w:B<=G){a s X}(f:∀e∈X,EvD p G e):Kq p G (xz d X) (t++MemOp.ofEvents 0 a s X):=by
 refine⟨λj=>l6 (h.clean j) (λg c=>B9 c) λi b q g c k y l=>?_,λi b q D=>?_,handedOver_app h.over λg c=>r7 (B9 c),by rw[xh,h.hears],mr (λg c=>MemAct.low_mono w (h.seen g c)) λg c=>?_⟩
 ·rcases h.known i b q l.2.1 with z|⟨o,A⟩
  ·exact z
  ·obtain⟨e,n,rfl⟩:=py c;have C:=(f e n).1 k y (l.1▸o);have ⟨_,_,_,m⟩:=l
   grind
 ·have ⟨x,u,E⟩:=q8 q;rcases getElem?_append_cases u with⟨_,F⟩|⟨_,L⟩
  ·exact(h.known i b (by rwa[touchAt_of F]) D).imp (·.app _) id
  ·have:=knows_own u;rw[B9 L]at this;exact r7 this
 ·obtain⟨e,n,rfl⟩:=py c;exact(f e n).2
def Kq.mute(h:Kq p B d t){g}(s:g≠0){a j}(b:∀e∈X,Event.mute e=km):Kq p B d (t++MemOp.ofEvents g a j X):=by
 have u:∀f∈MemOp.ofEvents g a j X,f.act.touch? = jh:=λf c=>by obtain⟨e,l,rfl⟩:=py c;exact touch_mute (b e l)
 refine⟨λm=>l6 (h.clean m) (λf c=>B9 c) λi k _ f c q z _=>Aj,λi k r o=>?_,handedOver_app h.over λf c=>kr (u f c),(zl t s _ λf c=>B9 c).trans h.hears,mr h.seen λf c=>by obtain⟨e,l,rfl⟩:=py c;exact low_mute (b e l) B⟩;have ⟨x,v,w⟩:=q8 r;rcases getElem?_append_cases v with⟨_,n⟩|⟨_,y⟩
 ·exact(h.known i k (by rwa[touchAt_of n]) o).imp (·.app _) id
 grind
end
def Ends(P:im)(Post:iA)(Shun:gW)(d:Nat)(g:T)(w:Z):Prop:=
 ∀gs sl t (q:Nat->Nat),gs[0]?=lj g->Leavers P t gs q->Kq Shun w.1.size d t ->
  ∃N last o w' t',n9 P (N+1) (w7 gs w sl) t=(.ended o w',t')/\runN P N (w7 gs w sl)=.next last/\step P last=.ended o w'/\Good P Post last o w' t'
section
variable {p:gW} {d:Nat}
def Tg{N m a u o B b}(c:stepT P m=(.next a,u))(h:n9 P (N+1) a (t++u)=(.ended o B,b)):n9 P (N+1+1) m t=(.ended o B,b):=by
 rwa[runNT_succ_next c]
theorem Ends.step(g:h.status=.running)(I:∀n,∃g' a X,stepG P true h (w.at n)=.go g' a X∧w.heap.size≤a.heap.size∧(∀O∈X,EvD p a.heap.size O)∧Ends P Y p (deafBehind d X) g' a):Ends P Y p d h w:=by
 suffices Q:∀(e:Nat) (r:Array Goroutine) (l:World) (sl:Option (Nat×Nat)) (t:Trace) (q:Nat→Nat),(∃n,l=w.at n)→sumTo r.size q≤e→r[0]? = some h→Leavers P t r q→Kq p w.heap.size d t →
   ∃N c o a F,runNT P (N+1) (crowd r l sl) t=(.ended o a,F)∧runN P N (crowd r l sl)=.next c∧Go.step P c=.ended o a∧Good P Y c o a F from
  fun r sl t q J A S=>Q _ r w sl t q ⟨w.drawn,rfl⟩ (Nat.le_refl _) J A S
 intro e
 induction e using Nat.strongRecOn with
 | _ e T=>
 rintro r l sl t q ⟨C,rfl⟩ hM J A S
 have a8:0<r.size:=(Array.getElem?_eq_some_iff.1 J).1
 have V:∀x∈r,awake x:=by
  intro x G
  obtain⟨i,B,rfl⟩:=Array.mem_iff_getElem.1 G
  rcases Nat.eq_zero_or_pos i with rfl|a1
  ·have:r[0]=h:=by grind
   rw [this];exact awake_of (.inl g)
  ·exact awake_of ((A.old i _ a1 (Array.getElem?_eq_getElem B)).status.elim .inl fun x=>.inr (.inr x))
 obtain⟨i,x,n,v,B,G,k⟩:=crowd_pick (P:=P) (w:=w.at C) (sl:=sl) V ⟨0,h,J,g⟩
 have a7:(w.at C).at n=w.at n:=rfl
 rw [a7] at k
 rcases Nat.eq_zero_or_pos i with rfl|a1
 ·obtain rfl:x=h:=by rw [J] at B;exact(Option.some.inj B).symm
  obtain⟨g',a,X,hs,E,aa,hE⟩:=I n
  have M:=runT_crowd_go (P:=P) (sl:=v) (i:=0) B (show stepG P (0 == 0) x (w.at n)=_ from hs)
  obtain⟨N,c,o,wf,u,H,r2,y,z⟩:=hE ((r.map (woken P x g' a)).setIfInBounds 0 g') v (t++MemOp.ofEvents 0 x.frame.fn x.frame.place X) q (by simp [a8])
   ⟨fun j ab s Z=>by
    rw [Array.getElem?_setIfInBounds_ne (by omega),Array.getElem?_map] at Z
    obtain⟨K,U,rfl⟩:=Option.map_eq_some_iff.1 Z
    have D:=A.old j K s U
    rwa [woken_quitsD D,Deaf_other t (by omega) _ (fun op f=>B9 f)],fun j s=>by
    rw [Deaf_other t (g':=0) (by simp at s;omega) _ (fun op f=>B9 f)]
    exact A.above j (by simpa using s)⟩
   (S.own E aa)
  have b:=k.trans M
  exact⟨N+1,c,o,wf,u,Tg b H,by rwa [runN_succ_next b],y,z⟩
 ·have D:=A.old i x a1 B
  have a6:(i == 0)=false:=by simp;omega
  have L:i<r.size:=(Array.getElem?_eq_some_iff.1 B).1
  cases W:q i with
  | zero=>rw [W] at D;rw [D.1] at G;cases G
  | succ m=>
   rw [W] at D
   rcases D with⟨hf,_⟩|⟨_,g',X,hm,ao,b8⟩
   ·rw [hf] at G;cases G
   have M:=runT_crowd_go (P:=P) (sl:=v) (i:=i) B (by rw [a6];exact ao (w.at n))
   have b9:sumTo r.size (upd q i m)+(m+1)=sumTo r.size q+m:=by
    have:=sumTo_upd q m id L
    simpa [W] using this
   have E:((r.map (woken P x g' (w.at n))).setIfInBounds i g').size=r.size:=by simp
   obtain⟨N,c,o,wf,u,H,r2,y,z⟩:=T (sumTo r.size (upd q i m)) (by omega) ((r.map (woken P x g' (w.at n))).setIfInBounds i g') (w.at n) v (t++MemOp.ofEvents i x.frame.fn x.frame.place X) (upd q i m) ⟨n,rfl⟩ (by rw [E];exact Nat.le_refl _)
    (by rw [Array.getElem?_setIfInBounds_ne (by omega),Array.getElem?_map,J];simp [woken_run g])
    ⟨fun j ab s Z=>by
     by_cases R:i=j
     ·subst R
      rw [Array.getElem?_setIfInBounds_self_of_lt (by simpa using L)] at Z
      obtain rfl:=Option.some.inj Z
      rwa [upd_same,Deaf_own]
     ·rw [Array.getElem?_setIfInBounds_ne R,Array.getElem?_map] at Z
      obtain⟨K,U,rfl⟩:=Option.map_eq_some_iff.1 Z
      have ah:=A.old j K s U
      rwa [woken_quitsD ah,upd_ne q m (Ne.symm R),Deaf_other t R _ (fun op f=>B9 f)],fun j s=>by
     rw [Deaf_other t (g':=i) (by simp at s;omega) _ (fun op f=>B9 f)]
     exact A.above j (by simpa using s)⟩ (S.mute (by omega) hm)
   have b:=k.trans M
   exact⟨N+1,c,o,wf,u,Tg b H,by rwa [runN_succ_next b],y,z⟩
def Ends.ret(a:h.status=.running)(b:∀n,∃v X,stepG P km h (w.at n)=.ended (.done v) (w.at n) X/\(∀e∈X,EvL p w.1.size e)/\Y v (w.at n)):Ends P Y p 0 h w:=by
 intro r G t q d k l;refine beside_ends (D:=λ_ _ _=>False) (n:=0) (λ_ _ _ x=>x.elim) d k l.to λg c=>?_;obtain⟨n,rfl⟩:=c;have ⟨v,X,f,i,j⟩:=b n;exact⟨a,v,X,f,i,j⟩
def Ends.goes{D:Z->Z->Array Event->Prop}{a:T->Z->Prop}(i:∀w B X,D w B X->iL w.1<=iL B.1/\∀e∈X,EvL p B.1.size e)(f:∀g w,a g w->Ends P Y p d g w):∀{n} {g} {w},y P km z D a n g w->Ends P Y p d g w
 |0,g,w,h=>f g w (h w (ig w))
 |n+1,g,w,h=>by
  rcases h with h|⟨m,h⟩
  ·exact f g w (h w (ig w))
  ·refine Ends.step m λk=>?_;have:=h _ ⟨k,iI⟩;have ⟨R,B,X,e,j,l⟩:=goes_elim this;have ⟨o,c⟩:=i _ _ _ j;refine⟨R,B,X,e,o,λe b=>⟨(c e b).1,(c e b).2.2.2⟩,?_⟩;rw[vi λe b=>⟨(c e b).2.1,(c e b).2.2.1⟩];exact Ends.goes i f l
end
open Go.ConcN (sumTo upd sumTo_upd upd_ne upd_same)
section
variable {p:gW} {d:Nat}
def Aic{C:BR}{t}(O:0<C.k)(p:Past C.Shun w.1.size t)(H:vp t C.k=0)(fn f k d):C.TI (t++#[({ g:=0,fn:=fn,pos:=k,act:=.go C.k }:MemOp),{ g:=C.k,fn:=f,pos:=d,act:=.start }]) w 0 0:=by
 have r:∀l∈(#[({ g:=0,fn:=fn,pos:=k,act:=.go C.k }:MemOp),{ g:=C.k,fn:=f,pos:=d,act:=.start }]:wv),l.act.touch? = jh/\(∀z,l.act≠.mark z)/\l.act.low w.1.size:=λl c=>by
  simp at c;rcases c with rfl|rfl<;>exact⟨iI,Ad,trivial⟩
 have b:(t++#[({ g:=0,fn:=fn,pos:=k,act:=.go C.k }:MemOp),{ g:=C.k,fn:=f,pos:=d,act:=.start }])[t.size]?=lj { g:=0,fn:=fn,pos:=k,act:=.go C.k }:=Ad;have v:(t++#[({ g:=0,fn:=fn,pos:=k,act:=.go C.k }:MemOp),{ g:=C.k,fn:=f,pos:=d,act:=.start }])[t.size+1]?=lj { g:=C.k,fn:=f,pos:=d,act:=.start }:=by
  grind
 have o:∀i a,om (t++#[({ g:=0,fn:=fn,pos:=k,act:=.go C.k }:MemOp),{ g:=C.k,fn:=f,pos:=d,act:=.start }]) i=lj a->om t i=lj a:=λi a q=>by
  obtain⟨x,u,E⟩:=q8 q;rcases getElem?_append_cases u with⟨_,F⟩|⟨_,L⟩
  ·rwa[touchAt_of F]
  grind
 have n:s9 (t++#[({ g:=0,fn:=fn,pos:=k,act:=.go C.k }:MemOp),{ g:=C.k,fn:=f,pos:=d,act:=.start }]) t.size (t.size+1):=by
  refine .single (kr ⟨.spawn (child:=C.k) (by rw[act?_of b]) (by rw[act?_of v]) (by simp only[h9,v,aI]),⟨0,by simp only[h9,b,aI],by rw[rp (aC _)];exact p.hears⟩,⟨C.k,by simp only[h9,v,aI],?_⟩⟩);rw[deaf_succ b,rp (aC _)]
  show deafStep C.k (vp t C.k) _=0;rw[H]
  rfl
 refine⟨λs=>?_,λi a q D=>?_,λi a q D=>?_,Qi (λi g J A _ y=>p.over i g J A y) λl c=>kr (kr (r l c).1),(p9 t 0 _ λl c=>⟨(r l c).2.1 .disable,(r l c).2.1 .enable⟩).trans p.hears,(p9 t C.k _ λl c=>⟨(r l c).2.1 .disable,(r l c).2.1 .enable⟩).trans H,mr p.seen λl c=>(r l c).2.2⟩
 ·rintro⟨i,j,B,⟨a,m,q,I,y⟩,M,N⟩;exact p.clean s ⟨i,j,B,⟨a,m,o i a q,o j m I,y⟩,λe=>M (ju _ e),λe=>N (ju _ e)⟩
 ·rcases p.known i a (o i a q) D with h|h
  ·exact r7 (h.app _)
  ·exact kr (r7 h)
 ·rcases p.known i a (o i a q) D with h|h
  ·exact r7 ⟨t.size+1,_,v,iI,kr ((h.hb_new (aC _) b iI).trans n)⟩
  ·exact kr (r7 h)
end
open Go.ConcX.Gen Go.RowKit Go.Conc.Lib
def Dx.c0{I a b}(h:Dx I a w b sm):w.cell? (Ga a)=lj (uu .u64 b):=by
 unfold Dx at h;simp[World.cell?,Ga,JK,h]
def D9.cell0{I a}(h:D9 I a w):∃v,w.cell? (iC a)=lj v:=let⟨b,sm,x⟩:=h;⟨_,x.c0⟩
variable {C:BR}
noncomputable def Qy(L:mh):Code:=(addFn L).body.getD .skip
noncomputable def KH(L:mh):Code:=(doneFn L).body.getD .skip
end Go.Pair
namespace Go.Pair
variable {D:Z->Z->Array Event->Prop}{K:Nat->Obj->Prop}{X:Array Event}{cs:List Frame}
open Go Go.Conc Go.ConcX.Gen Go.RowKit Go.Conc.Lib
variable {C:BR}
def KA2(C:BR)(sent:List (C.β×O))(w w₁:Z):Prop:=RA C sent w w₁/\D9 C.ty C.Wg w₁
def Av{sent a b}(h:KA2 C sent a w)(r:RA C sent w b):KA2 C sent a b:=⟨h.1.trans r,r.wg h.2⟩
def UO(O:C.Ok){sent a b d}(h:KA2 C sent a w)(c:b.block=C.Wg)(e:Dx C.ty C.Wg (w.setCell b v) d sm):KA2 C sent a (w.setCell b v):=
 ⟨h.1.trans (NH O c λ_=>⟨d,sm,e⟩),⟨d,sm,e⟩⟩
def D9.cell1{I a}(h:D9 I a w):∃v,w.cell? (iD a 1)=lj v:=by
 have ⟨b,sm,x⟩:=h;unfold Dx at x;exact⟨uu .u32 sm,by simp[World.cell?,JK,x]⟩
noncomputable def Y8(L:mh):Code:=(waitFn L).body.getD .skip
def Apj(O:C.Ok)(H:WgLib C.P L)(v:C.ty=L.30){sent}{b₀:Frame}{a₀}{ops₀}{i₀}{rest₀:hZ}{k₀}{cs}(w)(p:D9 C.ty C.Wg w)(m:∀R K,KA2 C sent w K->R.status=.running->(∃n,y C.P km z D0 (λg _=>g=G (b₀.at (a₀.put ((ops₀[i₀]?).bind (·.dst)) (js #[])) (.inRegion ops₀ rest₀::k₀)) cs) n R K)->C.14 sent R K):y C.P km (RA C sent) D0 (AKd C sent) 100 (G ((base L.wait).at ⟨#[iB C.Wg]++Array.replicate ((waitFn L).7 - 1) undef,[]⟩ [.code (Y8 L)]) (b₀.at a₀ (.inRegion ops₀ (i₀::rest₀)::k₀)::cs)) w:=by
 lib_facts
 simp only[Y8,waitFn,aY,Nat.reduceSub,dE,dO,eJ,dV,bW,cK];have e:∀{w} {st sm},Dx C.ty C.Wg w st sm->w.cell? (iC C.Wg)=lj (uu .u64 st)/\w.frozen? (iC C.Wg)=sd/\w.cell? (iD C.Wg 1)=lj (uu .u32 sm)/\w.frozen? (iD C.Wg 1)=sd:=λh=>by
  exact Fmx
 have p:KA2 C sent w w:=⟨RA.refl _ _ _,p⟩
 u_c x Av p
 u_cond km Av p
 u_reg Av p
 refine ze (λK U=>?_);replace p:=Av p U;clear U;refine⟨iI,_,stepG_mark0 .disable Ad iI iI (by k_ne) iI H.5 (x_disable_n L) (x_disable_b L) (x_disable_x L) (x_disable_f L),100,?_⟩;walk_nrm
 u_c zr Av p
 u_c stepG_block Av p
 u_c stepG_loop Av p
 u_c stepG_block Av p
 u_c x Av p
 u_reg Av p
 u_op Av p
 u_op Av p
 u_op Av p
 u_call H.13 (nm_uLoad L) uLoadFn Av p
 u_c x Av p
 u_reg Av p
 u_op Av p
 u_c zr Av p
 u_c x Av p
 u_reg Av p
 u_op Av p
 u_op Av p
 u_op Av p
 refine ze (λK U=>?_);replace p:=Av p U;clear U;refine⟨iI,λW=>?_,λW=>?_⟩
 ·refine⟨_,stepG_load_atomic iI iI (by k_ne) iI H.24 (x_loadU64_n L) (x_loadU64_b L) (x_loadU64_x L) .u64 (x_loadU64_f L) iI (e W).1,200,?_⟩;clear W;walk_nrm
  u_op Av p
  u_c zr Av p
  u_c wc Av p
  u_leave1 H.13 Av p
  u_op Av p
  u_c zr Av p
  u_c x Av p
  u_reg Av p
  u_op Av p
  u_op Av p
  u_op Av p
  u_op Av p
  u_c zr Av p
  u_c x Av p
  u_reg Av p
  u_op Av p
  u_op Av p
  u_op Av p
  u_op Av p
  u_c zr Av p
  u_c x Av p
  u_c x Av p
  u_reg Av p
  u_op Av p
  u_op Av p
  u_c zr Av p
  u_cond sd Av p
  u_c y8 Av p
  u_c x Av p
  u_reg Av p
  u_op Av p
  u_op Av p
  u_op Av p
  u_op Av p
  u_op Av p
  u_op Av p
  u_call H.19 (nm_uCas L) uCasFn Av p
  u_c x Av p
  u_reg Av p
  u_op Av p
  u_c zr Av p
  u_c x Av p
  u_reg Av p
  u_op Av p
  u_op Av p
  u_op Av p
  u_op Av p
  u_op Av p
  refine ze (λj D=>?_);replace p:=Av p D;clear D;refine⟨iI,λW=>?_,λW=>?_⟩
  ·refine⟨_,stepG_cas_hit iI iI (by k_ne) iI H.26 (x_casU64_n L) (x_casU64_b L) (x_casU64_x L) .u64 (x_casU64_f L) iI iI iI (e W).1 (e W).2.1,200,?_⟩;replace p:=UO O p iI (Lq W (KK+1));clear W;walk_nrm
   u_op Av p
   u_c zr Av p
   u_c wc Av p
   u_leave1 H.19 Av p
   u_c zr Av p
   u_cond km Av p
   u_c x Av p
   u_c x Av p
   u_reg Av p
   u_op Av p
   u_op Av p
   u_op Av p
   u_op Av p
   u_c zr Av p
   u_cond km Av p
   u_reg Av p
   u_op Av p
   u_op Av p
   u_op Av p
   u_in Av p
   refine goes_oper_k iI iI (by k_ne) (λN M=>?_);have E:=run_convert_to_unsafe (P:=C.P) H.67 H.32 H.113 (D9.cell1 p.2).choose_spec;have J:=λX=>th (P:=C.P) H.67 H.32 H.113 (D9.cell1 p.2).choose_spec X;go_simp;refine M _ _ ⟨?_,?_⟩
   ·exact Qr8
   clear M N E J;refine ze (λi T=>?_);replace p:=Av p T;clear T;refine⟨iI,_,stepG_markAt .write Ad iI iI (by k_ne) iI H.20 (x_raceWrite_n L) (x_raceWrite_b L) (x_raceWrite_x L) (x_raceWrite_f L) Agb,200,?_⟩;walk_nrm
   u_c zr Av p
   u_c x Av p
   u_reg Av p
   u_op Av p
   u_c zr Av p
   u_c x Av p
   u_c x Av p
   u_reg Av p
   u_op Av p
   u_op Av p
   u_op Av p
   u_op Av p
   u_skip Av p
   u_op Av p
   u_c zr Av p
   u_cond sd Av p
   u_c y8 Av p
   u_c x Av p
   u_reg Av p
   u_op Av p
   u_op Av p
   u_op Av p
   u_op Av p
   refine ze (λk a=>?_);replace p:=Av p a;clear a;refine⟨iI,iI,fun⟨st,W⟩=>?_,λW=>?_⟩
   ·exact stepG_semacquire_wait iI iI iI H.21 (x_semacquire_n L) (x_semacquire_b L) (x_semacquire_x L) (x_semacquire_f L) (by simp[Act.eval]) (e W).2.2.1
   ·refine⟨_,stepG_semacquire iI iI (by k_ne) iI H.21 (x_semacquire_n L) (x_semacquire_b L) (x_semacquire_x L) (x_semacquire_f L) Agb (e W).2.2.1 Ae (e W).2.2.2,200,?_⟩;replace p:=UO O p iI (JL W 0);clear W;walk_nrm
    u_c zr Av p
    u_c x Av p
    u_reg Av p
    u_op Av p
    u_op Av p
    u_op Av p
    u_call H.13 (nm_uLoad L) uLoadFn Av p
    u_c x Av p
    u_reg Av p
    u_op Av p
    u_c zr Av p
    u_c x Av p
    u_reg Av p
    u_op Av p
    u_op Av p
    u_op Av p
    refine ze (λl c=>?_);replace p:=Av p c;clear c;refine⟨iI,λW=>?_⟩;refine⟨_,stepG_load_atomic iI iI (by k_ne) iI H.24 (x_loadU64_n L) (x_loadU64_b L) (x_loadU64_x L) .u64 (x_loadU64_f L) iI (e W).1,200,?_⟩;clear W;walk_nrm
    u_op Av p
    u_c zr Av p
    u_c wc Av p
    u_leave1 H.13 Av p
    u_op Av p
    u_op Av p
    u_c zr Av p
    u_c x Av p
    u_cond km Av p
    u_c x Av p
    u_reg Av p
    refine ze (λd B=>?_);replace p:=Av p B;clear B;refine⟨iI,_,stepG_mark0 .enable Ad iI iI (by k_ne) iI H.6 (x_enable_n L) (x_enable_b L) (x_enable_x L) (x_enable_f L),50,?_⟩;walk_nrm
    u_c zr Av p
    u_reg Av p
    u_op Av p
    u_in Av p
    refine goes_oper_k iI iI (by k_ne) (λN M=>?_);refine Dmt λE J=>?_;refine M _ _ ⟨?_,?_⟩
    ·exact Qr8
    clear M N E J;refine ze (λf F=>?_);replace p:=Av p F;clear F;refine⟨iI,_,stepG_markAt .acquire Ad iI iI (by k_ne) iI H.17 (x_acquire_n L) (x_acquire_b L) (x_acquire_x L) (x_acquire_f L) Agc,iI,m _ _ p iI ⟨60,?_⟩⟩;walk_nrm;have S:True:=trivial;clear p
    u_c zr (fun(h:True) (_:z _ _)=>h) S
    u_c x (fun(h:True) (_:z _ _)=>h) S
    u_c x (fun(h:True) (_:z _ _)=>h) S
    u_reg (fun(h:True) (_:z _ _)=>h) S
    u_op (fun(h:True) (_:z _ _)=>h) S
    u_c zr (fun(h:True) (_:z _ _)=>h) S
    u_cond sd (fun(h:True) (_:z _ _)=>h) S
    u_c y8 (fun(h:True) (_:z _ _)=>h) S
    u_c wc (fun(h:True) (_:z _ _)=>h) S
    u_leave0 H.3 (fun(h:True) (_:z _ _)=>h) S
    exact ze (λ_ _=>rfl)
  ·refine⟨_,stepG_cas_miss iI iI (by k_ne) iI H.26 (x_casU64_n L) (x_casU64_b L) (x_casU64_x L) .u64 (x_casU64_f L) iI iI iI (e W).1 (e W).2.1 Ae,200,?_⟩;clear W;walk_nrm
   u_op Av p
   u_c zr Av p
   u_c wc Av p
   u_leave1 H.19 Av p
   u_c zr Av p
   u_cond sd Av p
   u_c y8 Av p
   u_c stepG_inBlock Av p
   u_c stepG_inLoop Av p
   u_c stepG_block Av p
   u_c x Av p
   u_reg Av p
   u_op Av p
   u_op Av p
   u_op Av p
   u_call H.13 (nm_uLoad L) uLoadFn Av p
   u_c x Av p
   u_reg Av p
   u_op Av p
   u_c zr Av p
   u_c x Av p
   u_reg Av p
   u_op Av p
   u_op Av p
   u_op Av p
   refine ze (λi T=>?_);replace p:=Av p T;clear T;refine⟨iI,λW=>?_⟩;exact P7f
 ·exact P7f
end Go.Pair
namespace Go.Pair
variable {D:Z->Z->Array Event->Prop}{K:Nat->Obj->Prop}{X:Array Event}{cs:List Frame}{o:Obj}
open Go Go.Conc Go.ConcX.Gen Go.RowKit Go.Conc.Lib
section
variable (P) (q:Nat) (I:q9) (a:T)
def PEn(g:T)(w:Z):Prop:=g.status=.running/\∃g',stepG P km g w=.go g' w #[R9 .enable]/\∃n,y P km z D0 (λg _=>g=a) n g' w
def PRd(g:T)(w:Z):Prop:=g.status=.running/\∃g',stepG P km g w=.go g' w #[R9 (.read (FJ q))]/\∃n,y P km z D0 (PEn P a) n g' w
def PAd(g:T)(w:Z):Prop:=g.status=.running/\∃g',stepG P km g w=.go g' (w.setCell (Ga q) (uu .u64 KK)) #[CP (Ga q),VZ (Ga q)]/\∃n,y P km z D0 (PRd P q a) n g' (w.setCell (Ga q) (uu .u64 KK))
def PDi(g:T)(w:Z):Prop:=g.status=.running/\∃g',stepG P km g w=.go g' w #[R9 .disable]/\∃n,y P km z D0 (PAd P q a) n g' w
end
def A7{I c a}(h:Dx I b w c sm)(r:z w a):Dx I b a c sm:=by
 obtain⟨d,rfl⟩:=r;exact h
def Ajw(H:WgLib P L){d}{g:Frame}{f a j}{c:hZ}{k cs}(w)(hF:Dx L.30 d w 0 0):y P km z D0 (PDi P d (G (g.at (f.put ((a[j]?).bind (·.dst)) (js #[])) (.inRegion a c::k)) cs)) 100 (G ((base L.add).at ⟨#[iB d,iE 1]++Array.replicate 115 undef,[]⟩ [.code (Qy L)]) (g.at f (.inRegion a (j::c)::k)::cs)) w:=by
 lib_facts
 simp only[Qy,addFn,aY,dE,dO,eJ,dV,bW,cK];have e:∀{w} {u sm},Dx L.30 d w u sm->w.cell? (iC d)=lj (uu .u64 u)/\w.frozen? (iC d)=sd/\w.cell? (iD d 1)=lj (uu .u32 sm)/\w.frozen? (iD d 1)=sd:=λh=>by
  exact Fmx
 u_c x A7 hF
 u_cond km A7 hF
 u_c x A7 hF
 u_c x A7 hF
 u_reg A7 hF
 u_op A7 hF
 u_op A7 hF
 u_c zr A7 hF
 u_cond sd A7 hF
 u_c y8 A7 hF
 u_c x A7 hF
 u_reg A7 hF
 refine ze (λl U=>?_);replace hF:=A7 hF U;clear U;refine⟨iI,_,stepG_mark0 .disable Ad iI iI (by k_ne) iI H.5 (x_disable_n L) (x_disable_b L) (x_disable_x L) (x_disable_f L),100,?_⟩;walk_nrm
 u_c zr A7 hF
 u_reg A7 hF
 u_defer A7 hF
 u_c zr A7 hF
 u_c x A7 hF
 u_reg A7 hF
 u_op A7 hF
 u_c zr A7 hF
 u_c x A7 hF
 u_c x A7 hF
 u_reg A7 hF
 u_bub A7 hF
 u_c zr A7 hF
 u_cond sd A7 hF
 u_c y8 A7 hF
 u_c x A7 hF
 u_reg A7 hF
 u_op A7 hF
 u_op A7 hF
 u_op A7 hF
 u_op A7 hF
 u_op A7 hF
 u_op A7 hF
 u_call H.11 (nm_uAdd L) uAddFn A7 hF
 u_c x A7 hF
 u_reg A7 hF
 u_op A7 hF
 u_c zr A7 hF
 u_c x A7 hF
 u_reg A7 hF
 u_op A7 hF
 u_op A7 hF
 u_op A7 hF
 u_op A7 hF
 refine ze (λl U=>?_);replace hF:=A7 hF U;clear U;have F:IntKind.u64.wrap (0+4294967296)=KK:=Ae;refine⟨iI,_,(stepG_add_atomic iI iI (by k_ne) iI H.23 (x_addU64_n L) (x_addU64_b L) (x_addU64_x L) .u64 (x_addU64_f L) iI iI (e hF).1 (e hF).2.1).trans (by rw[F];rfl),200,?_⟩;replace hF:Dx L.30 d (l.setCell (Ga d) (uu .u64 KK)) KK 0:=Lq hF KK;unfold KK at hF⊢;walk_nrm
 u_op A7 hF
 u_c zr A7 hF
 u_c wc A7 hF
 u_leave1 H.11 A7 hF
 u_op A7 hF
 u_c zr A7 hF
 u_c x A7 hF
 u_c x A7 hF
 u_reg A7 hF
 u_op A7 hF
 u_op A7 hF
 u_op A7 hF
 u_op A7 hF
 u_skip A7 hF
 u_skip A7 hF
 u_op A7 hF
 u_c zr A7 hF
 u_cond sd A7 hF
 u_c y8 A7 hF
 u_c x A7 hF
 u_reg A7 hF
 u_op A7 hF
 u_op A7 hF
 u_op A7 hF
 u_op A7 hF
 u_c zr A7 hF
 u_c x A7 hF
 u_reg A7 hF
 u_op A7 hF
 u_op A7 hF
 u_op A7 hF
 u_op A7 hF
 u_c zr A7 hF
 u_c x A7 hF
 u_c x A7 hF
 u_reg A7 hF
 u_op A7 hF
 u_op A7 hF
 u_op A7 hF
 u_op A7 hF
 u_op A7 hF
 u_op A7 hF
 u_op A7 hF
 u_op A7 hF
 u_op A7 hF
 u_op A7 hF
 u_c zr A7 hF
 u_cond km A7 hF
 u_reg A7 hF
 u_op A7 hF
 u_op A7 hF
 u_op A7 hF
 u_in A7 hF
 refine goes_oper_k iI iI (by k_ne) (λN M=>?_);have E:=run_convert_to_unsafe (P:=P) H.67 H.32 H.113 (e hF).2.2.1;have n:=λX=>th (P:=P) H.67 H.32 H.113 (e hF).2.2.1 X;go_simp;refine M _ _ ⟨?_,?_⟩
 ·u_none
  intro Y r;have s:=mem_listed r;simp[go_sem,n]at s
 clear M N E n;refine ze (λv i=>?_);replace hF:=A7 hF i;clear i;refine⟨iI,_,stepG_markAt .read Ad iI iI (by k_ne) iI H.12 (x_raceRead_n L) (x_raceRead_b L) (x_raceRead_x L) (x_raceRead_f L) Agb,100,?_⟩;walk_nrm
 u_c zr A7 hF
 u_c x A7 hF
 u_c x A7 hF
 u_reg A7 hF
 u_op A7 hF
 u_op A7 hF
 u_c zr A7 hF
 u_cond sd A7 hF
 u_c y8 A7 hF
 u_c x A7 hF
 u_c x A7 hF
 u_reg A7 hF
 u_op A7 hF
 u_op A7 hF
 u_op A7 hF
 u_skip A7 hF
 u_skip A7 hF
 u_op A7 hF
 u_op A7 hF
 u_skip A7 hF
 u_skip A7 hF
 u_skip A7 hF
 u_skip A7 hF
 u_op A7 hF
 u_c zr A7 hF
 u_cond sd A7 hF
 u_c y8 A7 hF
 u_c x A7 hF
 u_c x A7 hF
 u_reg A7 hF
 u_op A7 hF
 u_op A7 hF
 u_op A7 hF
 u_skip A7 hF
 u_skip A7 hF
 u_op A7 hF
 u_c zr A7 hF
 u_cond km A7 hF
 u_c wc A7 hF
 refine ze (λb o=>?_);refine⟨iI,_,stepG_unwind_entry (v:=js #[]) (evs:=#[R9 .enable]) iI H.6 (x_enable_n L) (x_enable_b L) (x_enable_x L) (x_enable_f L) (by simp[Extern.Race.none_]) (by simp[R9]) (λx t=>by simp at t;subst t;simp[R9]),20,?_⟩;have S:True:=trivial;clear hF o
 u_leave0 H.1 (fun(h:True) (_:z _ _)=>h) S
 exact ze (λ_ _=>rfl)
def Ends.goesA{p d}{b:T->Z->Prop}{a}(f:∀g w,z a w->(∀e,z w e->b g e)->Ends P Y p d g w):∀{n} {g} {w},z a w->y P km z D0 b n g w->Ends P Y p d g w
 |0,g,w,c,h=>f g w c h
 |n+1,g,w,c,h=>by
  rcases h with h|⟨j,h⟩
  ·exact f g w c h
  ·refine Ends.step j λk=>?_;have:=h _ ⟨k,iI⟩;obtain⟨R,B,X,i,⟨rfl,rfl⟩,l⟩:=goes_elim this;exact⟨R,w.at k,#[],i,aC _,Ad,Ends.goesA f (atRel_trans _ _ _ c ⟨k,iI⟩) l⟩
section
variable {p:gW} {Wg:Nat} {Ret:T}
def KU{m}(h:(MemAct.mark m).touch? = jh)(c:(MemAct.mark m).low B):EvD p B (R9 m):=⟨(λx b=>by rw[Nq,h]at b;cases b),c⟩
def Ab8{a wr}(h:a.block<B):EvD p B ⟨.cell a,wr,km⟩:=⟨λx b _=>by
 simp only[Mn,MemAct.touch?,aT]at b;subst b;simp,h⟩
def Ag1(i:∀B,z w B->Ends P Y p 0 Ret B)(a:∀e,z w e->PEn P Ret h e):Ends P Y p 1 h w:=by
 refine Ends.step (a w (ig w)).1 λn=>?_;have ⟨_,R,j,m,f⟩:=a _ ⟨n,iI⟩;refine⟨R,w.at n,_,j,aC _,λg c=>?_,(Ends.goesA (λh B d b=>by rw[b B (ig B)];exact i B d) ⟨n,iI⟩ f)⟩
 ·simp at c;subst c;exact KU iI trivial
def Ag2(o:Wg<F w.1)(l:∀B,z w B->Ends P Y p 0 Ret B)(a:∀e,z w e->PRd P Wg Ret h e):Ends P Y p 1 h w:=by
 refine Ends.step (a w (ig w)).1 λn=>?_;have ⟨_,R,j,m,f⟩:=a _ ⟨n,iI⟩;refine⟨R,w.at n,_,j,aC _,λg c=>?_,(Ends.goesA (λh B d b=>Ag1 (λk q=>l k (atRel_trans _ _ _ d q)) b) ⟨n,iI⟩ f)⟩
 ·simp at c;subst c;refine⟨λx i _=>?_,o⟩;simp only[Nq,MemAct.touch?,aT]at i;subst i;simp
def Ab6(i:Wg<F w.1)(o:∀B,z (w.setCell (Ga Wg) (uu .u64 KK)) B->Ends P Y p 0 Ret B){n}(e:y P km z D0 (PDi P Wg Ret) n h w):Ends P Y p 0 h w:=by
 refine Ends.goesA (a:=w) (λh B b a=>?_) (ig w) e;obtain⟨l,rfl⟩:=b;refine Ends.step (a _ (ig _)).1 λn=>?_;obtain⟨_,R,j,m,f⟩:=a _ ⟨n,iI⟩;refine⟨R,_,_,j,aC _,λg c=>?_,?_⟩
 ·simp at c;subst c;exact KU iI trivial
 ·refine Ends.goesA (a:=w) (d:=1) (λh B b a=>?_) ⟨n,iI⟩ f;obtain⟨q,rfl⟩:=b;refine Ends.step (a _ (ig _)).1 λn=>?_;obtain⟨_,R,j,m,f⟩:=a _ ⟨n,iI⟩;refine⟨R,_,_,j,by rw[Qp];exact aC _,λg c=>?_,?_⟩
  ·simp at c;rcases c with rfl|rfl
   ·exact Ab8 (by rwa[Qp])
   ·exact Ab8 (by rwa[Qp])
  ·refine Ends.goesA (a:=w.setCell (Ga Wg) (uu .u64 KK)) (d:=1) (λh B b a=>?_) ⟨n,iI⟩ f;refine Ag2 (w:=B) ?_ (λk d=>o k (atRel_trans _ _ _ b d)) a;obtain⟨r,rfl⟩:=b
   show Wg<(w.setCell _ _).1.size
   rwa[Qp]
end
def EA(P:im)(Post:iA)(Shun:gW)(g:T)(w:Z):Prop:=∀d,Ends P (λv w'=>BV w w'/\Post v w') Shun 0 g (w.at d)
section
variable {p:gW}
def EA.ends(a:EA P Y p h e):Ends P (λv d=>BV e d/\Y v d) p 0 h e:=a e.drawn
end
def EA.run(h:EA P Y iH g w):∃N a o B c,n9 P (N+1) (solo g w) #[]=(.ended o B,c)/\runN P N (solo g w)=.next a/\step P a=.ended o B/\Conc.Good P (λv B=>BV w B/\Y v B) a o B c:=by
 refine h.ends #[g] jh #[] (λ_=>0) iI ⟨λi x d e=>?_,λj _=>rfl⟩ ((Kq.of past_nil).mono (bF _))
 grind
section
variable {H:Type} {P:q9×O->H}
end
def O0{p s c}(f u)(q:c.program=p.name/\c.sum=p.sum/\c.spec=s.name)(r:c.start=.entering/\c.outside = []/\c.inits = []/\c.under=jh/\c.28=sd/\c.followed=jh/\c.still=sd)(C:c.23 = []/\c.24=sd/\c.25=sd/\c.26 = []/\c.27 = [])(k:c.leaving=km)(t:c.narrowed=s.cond.isSome)(B:p.checked.prog.funcNamed c.func=lj f)(I:p.checked.prog.funcs[f]?=lj u)(d:joinedFacts p.checked.prog f u s.bare c=km)(m:u.isInstance p.checked.prog c.origin c.targs)(o:u.isWrapper p.checked.prog c.wrapper c.8)(v:∀g:Os,g.Started->∀H(P:q9×uo->H),∀F:Stop.Interp,ReturnsInLeavingWide c.assume p.checked g f .any (c.pre P p.checked.prog u s) ((s.at F).post P p.checked.prog u c.apart c.fresh c.handsOn c.again)):c.holds p s:=by
 obtain⟨z,x,y⟩:=q;obtain⟨a,e,D,J,h,l,G⟩:=r;simp only[joinedFacts,aU,beq_iff_eq,cU,cZ,decide_eq_true_eq]at d;obtain⟨⟨⟨⟨⟨⟨⟨⟨⟨⟨⟨⟨⟨⟨⟨⟨⟨⟨⟨⟨⟨⟨⟨⟨⟨⟨⟨⟨⟨⟨⟨K,L⟩,N⟩,W⟩,k5⟩,i⟩,M⟩,O⟩,b⟩,Q⟩,R⟩,S⟩,T⟩,U⟩,X⟩,Y⟩,Z⟩,a1⟩,a6⟩,a7⟩,a8⟩,V⟩,aa⟩,w⟩,ab⟩,ad⟩,ae⟩,A⟩,af⟩,ah⟩,ai⟩,aj⟩:=d;have hq:∀g:Os,Stop.quiet p.checked.prog g:=λg an E=>by rw[b]at E;cases E
 have ak:c.33.isSome=sd:=by
  cases hx:c.33 with
  |none=>rfl
  |some _=>rw[hx]at w;cases w
 have j:∀g,c.world g=g.Started:=λg=>by unfold OpenClaim.world;rw[e,a]
 refine⟨K,z,x,y,L,N,?_,?_,f,u,B,I,⟨W,a7⟩,λhb=>absurd (h.symm.trans hb) Ae,?_,m,o,i.trans M.symm,⟨O.trans b.symm,?_,ab⟩,Q,R,S,T,U,⟨X,ai,aj⟩,⟨Y,a8⟩,⟨Z,V,af,ah⟩,⟨aa,ae,A,a1⟩,?_,λn al=>varReadable_some (a6 n al),⟨_,(j _).symm▸WideRow.started_initial,hq _⟩,[],?_,λg st _ H P _=>?_⟩
 ·unfold OpenClaim.startFits;rwa[a]
 ·unfold OpenClaim.startTold;rw[a];exact⟨D,J,C⟩
 ·unfold OpenClaim.namedList;rwa[l]
 ·unfold Program.envWorded;rw[b];rfl
 ·rw[e,t,ak];simp
 ·unfold OpenClaim.lists;rw[l]
 rw[j]at st;rw[OpenClaim.post_not_still G];unfold OpenClaim.form;rw[a,i];intro F;have e1:c.okInput=Input.okWide:=by unfold OpenClaim.okInput;rw[h]
 have e2:c.atReturn p.checked.prog=leavingAtReturn p.checked.prog:=by unfold OpenClaim.atReturn;rw[k]
 have e3:c.always p.checked.prog []=nothingAlways:=by unfold OpenClaim.always;rw[l]
 have e4:s.post P p.checked.prog u F c.outside c.apart c.fresh c.handsOn c.again=(s.at F).post P p.checked.prog u c.apart c.fresh c.handsOn c.again:=by rw[e];rfl
 rw[e1,e2,e3]
 show ReturnsInOpen _ _ _ _ _ _ _ _ (s.post P p.checked.prog u F c.outside c.apart c.fresh c.handsOn c.again) _ _;rw[e4];exact v g st H P F ad
end Go.Pair

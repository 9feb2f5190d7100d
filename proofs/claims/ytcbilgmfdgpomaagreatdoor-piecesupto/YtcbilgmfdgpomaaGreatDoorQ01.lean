import Derived.Test.YtcbilgmfdgpomaaGreatDoorBase
import Derived.Conc.CrowdComm
import Derived.Conc.CrowdCom2
import Derived.Conc.FxGenAddNeg
import Derived.Conc.CompanyMem
import Derived.Conc.Holds
import Derived.JoinedCond
set_option linter.all false
noncomputable section
open Array renaming size → iS
set_option maxHeartbeats 4000000
set_option maxRecDepth 100000
open Go renaming Goroutine → o5,World → qg,Trace → ql,stepG → ig,Program → vg,TypeId → mi,deafBehind → vq,FuncId → pz,Value → w8,HappensBefore → xk,mayWake → vx,partners → yw,World → O,Goroutine → T,stepG → E,TypeId → F
open Go.Conc renaming stepG_region_end → x,stepG_seq → Z,mem_ofEvents → o1,AtRel → qu,Deaf_other → jc,Goes → y,offersAt_of_not_blocked → tv,stepG_skip → kq,touch_of → lz,atRel_refl → lf,touchAt → r7,Deaf → ve,woken → vr,stepG_ret' → o0,served → jy,runT_crowd_go → iz,hb_app → qj,noRace_append → uu,woken_quitsD → yk,events_convert_to_unsafe → je,crowd → o6,parked → yv,rcase → ue,seen_app → oy,deaf_old → uz,Deaf_own → ui,heard_old → uf,AtRel → z
open Bool renaming true → tu,false → o9
open Option renaming some → ni,none → su
open Go.Trace renaming g? → r8
open Go.Conc.Goes renaming stop → mh
open Go.World renaming setCell → q9
open Go.ConcN renaming Deaf_still → lg
open Go.Conc.Lib renaming WgLink → ru
open Go.Value renaming int → pq,tuple → my
open Or renaming inl → p8,inr → n9
variable {B c f i j n q r:Nat}{L:ru}{R g h:T}{Y:iH}{d e w w':O}{sm:Int}{t u:ql}
def V9z{p:Prop}(h:p:=by
 rwa[aE Aa]at Z):p:=h
def Xx1{p:Prop}(h:p:=by
 rwa[aE Aa,aE Aa]at Z):p:=h
def Bkt{p:Prop}(h:p:=by
 subst u;rw[aQ (by simpa using T)]at Z;obtain rfl:=aA Z
 rwa[upd_same,Deaf_own]):p:=h
def D0r{p:Prop}(h:p:=by
 rw[aE Aa,aN]at Z;obtain⟨K,a1,rfl⟩:=bB.1 Z
 rwa[woken_quitsD (H.old j K l n a1)]):p:=h
def Sek{p:Prop}(h:p:=by
 rcases getElem?_stand r 0 j x Z with⟨_,rfl⟩|⟨l,v⟩
 ·exact offersAt_ph _ _
 ·by_cases n:j=k
  ·subst n;rw[D]at v;obtain rfl:=aA v;exact offersAt_of_not_blocked aw _ _
  ·exact offersAt_of_not_blocked (H.notBlocked Aa n v) _ _):p:=h
def Nzq{p:Prop}(h:p:=by
 simp only[Nk,MemAct.touch?,aW]at Z;subst Z;exact .inr (.inl ⟨⟨_,iP,iP⟩,Ad⟩)):p:=h
def Ejk{p:Prop}(h:p:=by
 cases tb<;>simp[J6]at i<;>(obtain⟨rfl,rfl⟩:=i;simp[J6])):p:=h
def Hw9{p:Prop}(h:p:=by
 simp at b;rcases b with rfl|rfl
 ·exact .inl ⟨_,_,iP,iP⟩
 ·exact .inl ⟨_,_,iP,iP⟩):p:=h
def Vks{p:Prop}(h:p:=by
 simp[semEvents]at b;rcases b with rfl|rfl|rfl|rfl
 ·exact .inr (.inl iP)
 ·exact .inl ⟨_,_,iP,iP⟩
 ·exact .inl ⟨_,_,iP,iP⟩
 ·exact .inr (.inr (.inl iP))):p:=h
def I04{p:Prop}(h:p:=by
 cases U<;>simp[J6]at i<;>(obtain⟨rfl,rfl⟩:=i;simp[J6])):p:=h
def X4y{p:Prop}(h:p:=by
 obtain⟨g,N,rfl⟩:=Conc.mem_ofEvents G;rw[touch_mute (o g N)]at Z;cases Z):p:=h
def U6p{p q:Prop}(k:q)(h:Hd q->p:=by
 intro kz;have E:=run_convert_to_unsafe (P:=C.P) H.27 H.32 H.112 (E3.cell0 p).choose_spec;have J:=λX=>events_convert_to_unsafe (P:=C.P) H.27 H.32 H.112 (E3.cell0 p).choose_spec X;go_simp;revert E J;exact kz.1):p:=h ⟨k⟩
def G9z{p:Prop}(h:p:=by
 unfold Eh at h;simp[World.cell?,World.frozen?,JU,h]):p:=h
def Qr8{p:Prop}(h:p:=by
 u_none
 intro Y Q;have b:=mem_listed Q;simp[go_sem,J]at b):p:=h
def Yxq{p:Prop}(h:p:=by
 refine⟨_,stepG_load_atomic iP iP (by k_ne) iP H.24 (x_loadU64_n L) (x_loadU64_b L) (x_loadU64_x L) .u64 (x_loadU64_f L) iP (e W).1,200,?_⟩;clear W;walk_nrm
 u_op Av p
 u_c stepG_region_end Av p
 u_c stepG_ret' Av p
 u_leave1 H.13 Av p
 u_op Av p
 u_c stepG_region_end Av p
 u_c stepG_seq Av p
 u_reg Av p
 u_op Av p
 u_op Av p
 u_op Av p
 u_op Av p
 u_c stepG_region_end Av p
 u_c stepG_seq Av p
 u_reg Av p
 u_op Av p
 u_op Av p
 u_op Av p
 u_op Av p
 u_c stepG_region_end Av p
 u_c stepG_seq Av p
 u_c stepG_seq Av p
 u_reg Av p
 u_op Av p
 u_op Av p
 u_c stepG_region_end Av p
 u_cond true Av p
 u_c stepG_seq Av p
 u_cond true Av p
 u_c stepG_seq Av p
 u_reg Av p
 refine Goes.stop (λd B=>?_);replace p:=Av p B;clear B;refine⟨iP,_,stepG_mark0 .enable Ad iP iP (by k_ne) iP H.6 (x_enable_n L) (x_enable_b L) (x_enable_x L) (x_enable_f L),50,?_⟩;walk_nrm
 u_c stepG_region_end Av p
 u_reg Av p
 u_op Av p
 u_in Av p
 refine goes_oper_k iP iP (by k_ne) (λN M=>?_);have E:=run_convert_to_unsafe (P:=C.P) H.27 H.32 H.112 (E3.cell0 p).choose_spec;have J:=λX=>events_convert_to_unsafe (P:=C.P) H.27 H.32 H.112 (E3.cell0 p).choose_spec X;go_simp;refine M _ _ ⟨?_,?_⟩
 ·u_none
  intro Y Q;have b:=mem_listed Q;simp[go_sem,J]at b
 clear M N E J;refine Goes.stop (λf F=>?_);replace p:=Av p F;clear F;refine⟨iP,_,stepG_markAt .acquire Ad iP iP (by k_ne) iP H.17 (x_acquire_n L) (x_acquire_b L) (x_acquire_x L) (x_acquire_f L) Af6,iP,m _ _ iP ⟨60,?_⟩⟩;walk_nrm;have S:True:=trivial;clear p
 u_c stepG_region_end (fun(h:True) (_:AtRel _ _)=>h) S
 u_c stepG_seq (fun(h:True) (_:AtRel _ _)=>h) S
 u_c stepG_seq (fun(h:True) (_:AtRel _ _)=>h) S
 u_reg (fun(h:True) (_:AtRel _ _)=>h) S
 u_op (fun(h:True) (_:AtRel _ _)=>h) S
 u_op (fun(h:True) (_:AtRel _ _)=>h) S
 u_op (fun(h:True) (_:AtRel _ _)=>h) S
 u_op (fun(h:True) (_:AtRel _ _)=>h) S
 u_op (fun(h:True) (_:AtRel _ _)=>h) S
 u_op (fun(h:True) (_:AtRel _ _)=>h) S
 u_op (fun(h:True) (_:AtRel _ _)=>h) S
 u_op (fun(h:True) (_:AtRel _ _)=>h) S
 u_skip (fun(h:True) (_:AtRel _ _)=>h) S
 u_skip (fun(h:True) (_:AtRel _ _)=>h) S
 u_op (fun(h:True) (_:AtRel _ _)=>h) S
 u_c stepG_region_end (fun(h:True) (_:AtRel _ _)=>h) S
 u_cond false (fun(h:True) (_:AtRel _ _)=>h) S
 u_c stepG_skip (fun(h:True) (_:AtRel _ _)=>h) S
 u_c stepG_ret' (fun(h:True) (_:AtRel _ _)=>h) S
 u_leave0 H.3 (fun(h:True) (_:AtRel _ _)=>h) S
 exact Goes.stop (λ_ _=>rfl)):p:=h
namespace Go.Pair
variable {D:O->O->Array Event->Prop}{K:Nat->Obj->Prop}{X:Array Event}{cs:List Frame}{o:Obj}
open Go Go.Conc
section
variable {P:vg} {k:Bool} {R:O->O->Prop} {j:pz} {g:Array Oper} {Q:Exit->Act->O->Prop} {M:Region.Mode} {S:iA} {C:Nat}
def CN{i:Oper}{f args m}{a:Act}{b v}(c:i.op=.call { callee:=.value (.func f),args:=args,argTypes:=m })(h:∀d,b=ni d->d∉i.looksAt g):args.map (a.put b v).eval=args.map a.eval:=
 Array.map_congr_left λx k=>Act.eval_put λd j e=>h d j (by
  subst e;refine fI _ (List.mem_filterMap.2 ⟨.tmp d,?_,iP⟩);simp[c,Op.operands,Call.operands,k])
end
open Go.ConcN (sumTo upd sumTo_upd upd_ne upd_same)
structure Np(P t)(gs:Array o5)(k)(q:Nat->Nat):Prop where
 old:∀i g,0<i->i≠k->gs[i]?=ni g->QuitsD P (q i) (ve t i) g
 above:∀j,gs.size<=j->ve t j=0
def StepA(P:vg)(k:Nat)(a b:T)(w:O)(t:ql)(K:T->T->O->ql->Prop):Prop:=
 (∃a' w' es,E P tu a w=.go a' w' es/\K a' (woken P a a' w' b) w' (t++MemOp.ofEvents 0 a.frame.fn a.frame.place es)) ∨
 (∃a₂ c z es s r tm,E P tu a w=.comm a₂ #[ue c z] tu (.recv tu) w es/\w.1[c]?=ni (.chan 0 #[] o9 s r tm)/\b.status≠.blocked /\
  K (yv a₂ #[ue c z] (.recv tu)) b w (t++MemOp.ofEvents 0 a.frame.fn a.frame.place es)) ∨
 (∃a₂ c z es s r tm b₂ v z',E P tu a w=.comm a₂ #[ue c z] tu (.recv tu) w es/\w.1[c]?=ni (.chan 0 #[] o9 s r tm)/\b=yv b₂ #[scase c v z'] .send /\
  K (jy a₂ (my #[v,.bool tu])) (jy b₂ undef) (w.setChan c 0 #[] o9 (s+1) (r+1) tm) (t++(MemOp.ofEvents 0 a.frame.fn a.frame.place es ++
   #[{ g:=k,fn:=b₂.frame.fn,pos:=b₂.frame.place,act:=.send c s },{ g:=0,fn:=a₂.frame.fn,pos:=a₂.frame.place,act:=.recv c r 0 },
    {g:=k,fn:=b₂.frame.fn,pos:=b₂.frame.place,act:=.sendDone c s },{ g:=0,fn:=a₂.frame.fn,pos:=a₂.frame.place,act:=.recvDone c r }]))) ∨
 (∃a₂ c z es s r tm,E P tu a w=.comm a₂ #[ue c z] tu (.recv tu) w es/\w.1[c]?=ni (.chan 0 #[] tu s r tm)/\b.status≠.blocked /\
  K (jy a₂ (my #[z,.bool o9])) b w (t++(MemOp.ofEvents 0 a.frame.fn a.frame.place es++#[{ g:=0,fn:=a₂.frame.fn,pos:=a₂.frame.place,act:=.recvClosed c }])))
def StepB(P:vg)(k:Nat)(a b:T)(w:O)(t:ql)(K:T->T->O->ql->Prop):Prop:=
 (∃b' w' es,E P o9 b w=.go b' w' es/\K (woken P b b' w' a) b' w' (t++MemOp.ofEvents k b.frame.fn b.frame.place es)) ∨
 (∃b₂ c v z es s r tm,E P o9 b w=.comm b₂ #[scase c v z] tu .send w es/\w.1[c]?=ni (.chan 0 #[] o9 s r tm)/\a.status≠.blocked /\
  K a (yv b₂ #[scase c v z] .send) w (t++MemOp.ofEvents k b.frame.fn b.frame.place es)) ∨
 (∃b₂ c v z es s r tm a₂ z',E P o9 b w=.comm b₂ #[scase c v z] tu .send w es/\w.1[c]?=ni (.chan 0 #[] o9 s r tm)/\a=yv a₂ #[ue c z'] (.recv tu) /\
  K (jy a₂ (my #[v,.bool tu])) (jy b₂ undef) (w.setChan c 0 #[] o9 (s+1) (r+1) tm) (t++(MemOp.ofEvents k b.frame.fn b.frame.place es ++
   #[{ g:=k,fn:=b₂.frame.fn,pos:=b₂.frame.place,act:=.send c s },{ g:=0,fn:=a₂.frame.fn,pos:=a₂.frame.place,act:=.recv c r 0 },
    {g:=k,fn:=b₂.frame.fn,pos:=b₂.frame.place,act:=.sendDone c s },{ g:=0,fn:=a₂.frame.fn,pos:=a₂.frame.place,act:=.recvDone c r }])))
section
variable {P:vg} {k:Nat} {r:Array T} {q:Nat->Nat}
def Np.notBlocked(h:Np P t r k q)(b:0<i)(d:i≠k)(c:r[i]?=ni g):g.status≠.blocked:=by
 intro e;rcases(h.old i g b d c).status with x|x<;>rw[x]at e<;>cases e
def Np.app{a}(A:0<k)(h:Np P t r k q)(B:∀c∈u,c.g=0∨c.g=k)(o:a.size=r.size)(w:k<r.size)(m:∀i g,0<i->i≠k->a[i]?=ni g->r[i]?=ni g):Np P (t++u) a k q:=by
 have p:∀j,j≠0->j≠k->ve (t++u) j=ve t j:=by
  intro j f v;have y:∀(l:List MemOp),(∀c∈l,c.g=0∨c.g=k)->∀d,l.foldl (deafStep j) d=d:=by
   intro l
   induction l with
   |nil=>intros;rfl
   |cons C l z=>
    intro x d;rw[fP,z (λc n=>x c (by simp[n]))];unfold deafStep
    grind
  have:=Deaf_append t j u.toList;simp only[Array.toArray_toList]at this
  grind
 refine⟨λi g f b s=>?_,λj e=>?_⟩
 ·rw[p i Aa b];exact h.old i g f b (m i g f b s)
 ·rw[o]at e;rw[p j Aa Aa];exact h.2 j e
end
section
variable {P:vg} {k:Nat} {b:Type} {lt:b->b->Prop} {J:b->T->T->O->ql->Prop} {Fin:T->T->O->ql->Prop}
def Ck{g u a b}(h:b∈MemOp.ofEvents g u a X):b.g=g:=by
 obtain⟨e,_,rfl⟩:=o1 h
 rfl
def Ad7(Y:0<k)(wf:WellFounded lt)(b7:∀c h a w t d,J c h a w t->J c h a (w.at d) t)(b8:∀h a w t d,Fin h a (w.at d) t->Fin h a w t)(b9:∀c h a w t i fn pos X,i≠0->i≠k->(∀ba∈X,Event.mute ba=tu)->J c h a w t->J c h a w (t++MemOp.ofEvents i fn pos X))(bb:∀c h a w t g g',J c h a w t->∃p,J p (woken P g g' w h) (woken P g g' w a) w t)(bc:∀c h a w t,J c h a w t->awake h/\awake a/\(h.status=.running∨a.status=.running))(ay:∀c h a w t,J c h a w t->Fin h a w t∨((h.status=.running->StepA P k h a w t λe m B t'=>∃p,lt p c/\J p e m B t')/\(a.status=.running->StepB P k h a w t λe m B t'=>∃p,lt p c/\J p e m B t'))):∀al c r h a w sl t (q:Nat->Nat),sumTo r.size q<=al->r[0]?=ni h->r[k]?=ni a->Np P t r k q->J c h a w t ->
   ∃a6 I e m B A t' q',
    runNT P a6 (o6 r w sl) t=(.next (o6 I B A),t')/\I.size=r.size/\I[0]?=ni e/\I[k]?=ni m/\Fin e m B t'/\Np P t' I k q':=by
 intro al
 induction al using Nat.strongRecOn with
 |_ al bd=>
 intro c
 induction c using wf.induction with
 |_ c bf=>
 intro r h a w sl t q hM F D H hJ;by_cases hF:Fin h a w t
 ·exact⟨0,r,h,a,w,sl,t,q,iP,iP,F,D,hF,H⟩
 obtain⟨bw,bx,bg⟩:=bc c h a w t hJ;have af:0<r.size:=(aH.1 F).1;have E:k<r.size:=(aH.1 D).1;have bh:∀g∈r,awake g:=by
  intro g G;obtain⟨i,V,rfl⟩:=Array.mem_iff_getElem.1 G;rcases eX i with rfl|R
  ·have:r[0]=h:=by simpa[aO V] using F
   rwa[this]
  ·by_cases a7:i=k
   ·subst a7;have:r[i]=a:=by simpa[aO V] using D
    rwa[this]
   ·exact awake_of ((H.old i _ R a7 (aO V)).status.elim p8 λx=>n9 (n9 x))
 obtain⟨i,g,d,A,V,G,N⟩:=crowd_pick (P:=P) (w:=w) (sl:=sl) bh (by
  rcases bg with ah|ah
  ·exact⟨0,h,F,ah⟩
  ·exact⟨k,a,D,ah⟩)
 have ar:=b7 c h a w t d hJ;have az:¬Fin h a (w.at d) t:=λah=>hF (b8 _ _ _ _ d ah);have a8:∀I(e m:o5)B(ai:ql),stepT P (o6 r w sl)=(.next (o6 I B A),ai)->I.size=r.size->I[0]?=ni e->I[k]?=ni m->Np P (t++ai) I k q->(∃p,lt p c/\J p e m B (t++ai)) ->
   ∃a6 L ab ad ae aj aa ak,
    runNT P a6 (o6 r w sl) t=(.next (o6 L ae aj),aa)/\L.size=r.size/\L[0]?=ni ab/\L[k]?=ni ad/\Fin ab ad ae aa/\Np P aa L k ak:=by
  intro I e m B ai C U bj bk bm ⟨p,T,au⟩;obtain⟨a6,L,ab,ad,ae,aj,aa,ak,hr,hz,x0,xb,xF,xO⟩:=bf p T I e m B A (t++ai) q (by rwa[U]) bj bk bm au;exact⟨a6+1,L,ab,ad,ae,aj,aa,ak,by simp only[runNT,C];exact hr,hz.trans U,x0,xb,xF,xO⟩
 have own:∀g',(g'=0∨g'=k)->∀fn pos X,∀op∈MemOp.ofEvents g' fn pos X,op.g=0∨op.g=k:=λg' bz fn pos X op f=>by rwa[Ck f]
 rcases eX i with rfl|R
 ·
  obtain rfl:g=h:=by rw[F]at V;exact(aA V).symm
  rcases ay c g a (w.at d) t ar with av|⟨bn,_⟩
  ·exact absurd av az
  rcases bn G with⟨e,B,X,C,y⟩|⟨a₂,z,O,X,s,an,tm,C,M,aw,y⟩|⟨a₂,z,O,X,s,an,tm,b₂,ao,z',C,M,rfl,y⟩|⟨a₂,z,O,X,s,an,tm,C,M,aw,y⟩
  ·refine a8 ((r.map (woken P g e B)).setIfInBounds 0 e) e (woken P g e B a) B _ (N.trans (iz (P:=P) (sl:=A) (i:=0) V (show ig P (0==0) g (w.at d)=_ from C))) Ad (by simp[af]) ?_ (H.app Y (own 0 (p8 iP) _ _ _) Ad E λj x l n Z=>?_) y
   ·rw[aE Aa,aN,D];rfl
   ·exact D0r
  ·have Q:yw (r.setIfInBounds 0 ph) z tu = []:=partners_nil λj x Z=>by
    exact Sek
   refine a8 (r.setIfInBounds 0 (yv a₂ #[ue z O] (.recv tu))) _ a (w.at d) _ (N.trans (crowd_waits (P:=P) (sl:=A) (i:=0) V (show ig P (0==0) g (w.at d)=_ from C) λcc ax=>?_)) Ad (by simp[af]) ?_ (H.app Y (own 0 (p8 iP) _ _ _) Ad E λj x l n Z=>?_) y
   ·obtain rfl:cc=ue z O:=by simpa using ax
    exact ways_recv_none M Q
   ·rwa[aE Aa]
   ·exact V9z
  ·have Q:yw (r.setIfInBounds 0 ph) z tu = [(k,0)]:=by
    rw[partners_one (stand_get Aa D) λj x l Z=>?_]
    ·simp[offersAt_parked_send]
    ·rcases getElem?_stand r 0 j x Z with⟨_,rfl⟩|⟨b5,v⟩
     ·exact offersAt_ph _ _
     ·exact tv (H.notBlocked Aa l v) _ _
   refine a8 _ _ _ _ _ (N.trans (crowd_recv_meets (P:=P) (sl:=A) (i:=0) (j:=k) V (show ig P (0==0) g (w.at d)=_ from C) M Aa D Q)) Ad (by simp[af];rfl) ?_ (H.app Y ?_ Ad E λj x l n Z=>?_) y
   ·rw[aE Aa,aQ E];rfl
   ·intro op f;rcases cD.1 f with f|f
    ·exact own 0 (p8 iP) _ _ _ op f
    ·simp at f;rcases f with rfl|rfl|rfl|rfl<;>simp
   ·exact Xx1
  ·have Q:yw (r.setIfInBounds 0 ph) z tu = []:=partners_nil λj x Z=>by
    exact Sek
   refine a8 _ _ a (w.at d) _ (N.trans (crowd_recv_closed (P:=P) (sl:=A) (i:=0) V (show ig P (0==0) g (w.at d)=_ from C) M Q)) Ad (by simp[af];rfl) ?_ (H.app Y ?_ Ad E λj x l n Z=>?_) y
   ·rwa[aE Aa]
   ·intro op f;rcases cD.1 f with f|f
    ·exact own 0 (p8 iP) _ _ _ op f
    ·simp at f;rw[f];simp
   ·exact V9z
 ·by_cases a7:i=k
  ·
   subst a7;obtain rfl:g=a:=by rw[D]at V;exact(aA V).symm
   have S:(i==0)=o9:=Ah;rcases ay c h g (w.at d) t ar with av|⟨_,bo⟩
   ·exact absurd av az
   rcases bo G with⟨m,B,X,C,y⟩|⟨b₂,z,ao,O,X,s,an,tm,C,M,bq,y⟩|⟨b₂,z,ao,O,X,s,an,tm,a₂,z',C,M,rfl,y⟩
   ·refine a8 ((r.map (woken P g m B)).setIfInBounds i m) (woken P g m B h) m B _ (N.trans (iz (P:=P) (sl:=A) (i:=i) V (by rwa[S]))) Ad ?_ (by simp[E]) (H.app Y (own i (n9 iP) _ _ _) Ad E λj x l n Z=>?_) y
    ·rw[aE Aa,aN,F];rfl
    ·exact D0r
   ·have Q:yw (r.setIfInBounds i ph) z o9 = []:=partners_nil λj x Z=>by
     rcases getElem?_stand r i j x Z with⟨_,rfl⟩|⟨l,v⟩
     ·exact offersAt_ph _ _
     ·rcases eX j with rfl|b5
      ·rw[F]at v;obtain rfl:=aA v;exact tv bq _ _
      ·exact tv (H.notBlocked b5 l v) _ _
    refine a8 (r.setIfInBounds i (yv b₂ #[scase z ao O] .send)) h _ (w.at d) _ (N.trans (crowd_waits (P:=P) (sl:=A) (i:=i) V (by rwa[S]) λcc ax=>?_)) Ad ?_ (by simp[E]) (H.app Y (own i (n9 iP) _ _ _) Ad E λj x l n Z=>?_) y
    ·obtain rfl:cc=scase z ao O:=by simpa using ax
     exact ways_send_none M Ad Q
    ·rwa[aE Aa]
    ·exact V9z
   ·have Q:yw (r.setIfInBounds i ph) z o9 = [(0,0)]:=by
     rw[partners_one (stand_get Aa F) λj x l Z=>?_]
     ·simp[offersAt_parked_recv]
     ·rcases getElem?_stand r i j x Z with⟨_,rfl⟩|⟨u,v⟩
      ·exact offersAt_ph _ _
      ·exact tv (H.notBlocked Aa u v) _ _
    refine a8 _ _ _ _ _ (N.trans (crowd_send_meets (P:=P) (sl:=A) (i:=i) (j:=0) V (by rwa[S]) M Aa F Q)) Ad ?_ (by simp[E];rfl) (H.app Y ?_ Ad E λj x l n Z=>?_) y
    ·rw[aE Aa,aQ af];rfl
    ·intro op f;rcases cD.1 f with f|f
     ·exact own i (n9 iP) _ _ _ op f
     ·simp at f;rcases f with rfl|rfl|rfl|rfl<;>simp
    ·exact Xx1
  ·
   have hq:=H.old i g R a7 V;have S:(i==0)=o9:=Ah;have T:i<r.size:=(aH.1 V).1;cases W:q i with
   |zero=>rw[W]at hq;rw[hq.1]at G;cases G
   |succ o=>
    rw[W]at hq;rcases hq with⟨hf,_⟩|⟨_,g',X,hm,br,c6⟩
    ·rw[hf]at G;cases G
    have bu:=iz (P:=P) (sl:=A) (i:=i) V (by rw[S];exact br (w.at d));have U:((r.map (woken P g g' (w.at d))).setIfInBounds i g').size=r.size:=Ad;have b6:sumTo r.size (upd q i o)+(o+1)=sumTo r.size q+o:=by
     have:=sumTo_upd q o id T;simpa[W] using this
    obtain⟨p,au⟩:=bb c h a (w.at d) t g g' ar;obtain⟨a6,L,ab,ad,ae,aj,aa,ak,hr,hz,x0,xb,xF,xO⟩:=bd (sumTo r.size (upd q i o)) Aa p ((r.map (woken P g g' (w.at d))).setIfInBounds i g') (woken P g g' (w.at d) h) (woken P g g' (w.at d) a) (w.at d) A (t++MemOp.ofEvents i g.frame.fn g.frame.place X) (upd q i o) (by rw[U];exact aB _)
     (by rw[aE Aa,aN,F];rfl)
     (by rw[aE a7,aN,D];rfl)
     ⟨λj x l n Z=>by
      by_cases u:i=j
      ·exact Bkt
      ·rw[aE u,aN]at Z;obtain⟨K,a1,rfl⟩:=bB.1 Z;have aq:=H.old j K l n a1
       rwa[yk aq,upd_ne q o (dN u),jc t u _ Anc],λj l=>by
      rw[jc t (g':=i) (by simp at l;omega) _ Anc];exact H.2 j (by simpa using l)⟩ (b9 p _ _ _ _ i g.frame.fn g.frame.place X Aa a7 hm au)
    exact⟨a6+1,L,ab,ad,ae,aj,aa,ak,by simp only[runNT,N,bu];exact hr,hz.trans U,x0,xb,xF,xO⟩
end
def Gy(Wg:Nat)(l:Loc):Prop:=∃a,l=.cell a/\a.block=Wg
def kindOf:Obj->Option F
 |.cells _ e _=>ni e
 |_=>su
structure Ol(w w':qg):Prop where
 size:iS w.1<=iS w'.1
 kind:∀(i:Nat)o,w.1[i]?=ni o->∃o',w'.1[i]?=ni o'/\kindOf o'=kindOf o
def Ol.refl(w):Ol w w:=⟨aB _,λi o h=>⟨o,h,iP⟩⟩
def Ol.at(w d):Ol w (w.at d):=⟨aB _,λi o h=>⟨o,h,iP⟩⟩
structure DQ(Shun:hZ)(Wg Ch)(LA LB:qg->Loc->Bool->Prop):Prop where
 apart:∀w l x y,LA w l x->LB w l y->x=o9/\y=o9
 aOut:∀w l x,LA w l x->¬Gy Wg l/\l≠.obj Ch/\¬Shun l
 bOut:∀w l x,LB w l x->¬Gy Wg l/\l≠.obj Ch/\¬Shun l
 aGrow:∀w w' l x,Ol w w'->LA w l x->LA w' l x
 bGrow:∀w w' l x,Ol w w'->LB w l x->LB w' l x
 wgS:∀l,Gy Wg l->¬Shun l
 chS:¬Shun (.obj Ch)
section
variable (p:hZ) (k b N:Nat) (LA LB:O->Loc->Bool->Prop)
structure TI(t w dA dB):Prop where
 clean:∀said,¬Race said t
 knA:∀i a,r7 t i=ni a->a.loc.isMemory=tu->Knows t 0 i∨(p a.loc/\a.kind=.atomic)∨(t.g? i=ni k/\(LB w a.loc a.write∨((Gy b a.loc∨a.loc=.obj N)/\a.kind=.atomic)))
 knB:∀i a,r7 t i=ni a->a.loc.isMemory=tu->Knows t k i∨(p a.loc/\a.kind=.atomic)∨(t.g? i=ni 0/\(LA w a.loc a.write∨(Gy b a.loc/\a.kind≠.plain)∨(a.loc=.obj N/\a.kind=.atomic)))
 over:∀i g,t.g? i=ni g->g≠0->g≠k->t.counts i->∃j,t.g? j=ni 0/\xk t i j
 dA:ve t 0=dA
 dB:ve t k=dB
 seen:∀op∈t,op.act.low w.1.size
end
section
variable {p:hZ} {k N:Nat} {LA LB:O->Loc->Bool->Prop} {a:Nat}
def Qs{k}(h:∀i g,t.g? i=ni g->g≠0->g≠k->t.counts i->∃j,t.g? j=ni 0/\xk t i j)(A:∀b∈u,b.g=0∨b.g=k∨b.act.touch? = su):∀i g,(t++u).g? i=ni g->g≠0->g≠k->(t++u).counts i->∃j,(t++u).g? j=ni 0/\xk (t++u) i j:=by
 intro i g m c f e;have ⟨x,r,l⟩:=e;have ⟨b,a,z⟩:=lz r;rcases getElem?_append_cases a with⟨n,p⟩|⟨_,q⟩
 ·have ⟨j,o,v⟩:=h i g (by simpa[r8,getElem?_append_old n] using m) c f ((counts_old n).1 ⟨x,r,l⟩);have d:j<t.size:=by
   unfold r8 at o
   grind
  exact⟨j,by simpa[r8,getElem?_append_old d] using o,qj u v⟩
 ·have y:b.g=g:=by simpa[r8,a] using m
  grind
def Xu{g}(h:t.g? i=ni g):(t++u).g? i=ni g:=by
 unfold r8 at h;have ⟨z,a,b⟩:=bB.1 h;rw[g?_old (lt_size_of_getElem? a)];unfold r8;omega
def R7(h:∀a∈t,a.act.low e.1.size)(c:iS e.1<=iS d.1)(b:∀a∈u,a.act.low d.1.size):=
 oy (λa f=>MemAct.low_mono c (h a f)) b
def TI.appA(Q:DQ p q N LA LB)(S:0<k)(v:TI p k q N LA LB t e a f)(D:Ol e d)(A:∀h∈u,h.g=0){s}(F:∀h∈u,∀b,h.act.touch? = ni b->b.loc.isMemory=tu->LA d b.loc b.write∨(Gy q b.loc/\b.kind≠.plain)∨(b.loc=.obj N/\b.kind=.atomic))(J:ve (t++u) 0=s)(M:∀h∈u,h.act.low d.1.size):TI p k q N LA LB (t++u) d s f:=by
 refine⟨λC=>uu (v.clean C) A λz w E h g b K o=>?_,λz w E n=>?_,λz w E n=>?_,Qs v.over λh g=>p8 (A h g),J,?_,R7 v.seen D.size M⟩
 ·have n:b.loc.isMemory=tu:=o.1▸o.2.1;rcases v.2 z w E o.2.1 with O|⟨y,_⟩|⟨_,j⟩
  ·exact O
  ·exfalso;rcases F h g b K n with c|⟨c,_⟩|⟨c,_⟩
   ·exact(Q.2 _ _ _ c).2.2 (o.1▸y)
   ·exact Q.wgS _ c (o.1▸y)
   ·exact Q.chS (c▸o.1▸y)
  ·exfalso;obtain⟨i,_,r,m⟩:=o;rcases j with j|⟨j,I⟩
   ·rcases F h g b K n with c|⟨c,_⟩|⟨c,_⟩
    ·have:=Q.apart d b.loc b.write w.write c (i▸Q.5 _ _ _ _ D j);rcases r with r|r
     ·rw[this.2]at r;cases r
     ·rw[this.1]at r;cases r
    ·exact(Q.3 _ _ _ j).1 (i▸c)
    ·exact(Q.3 _ _ _ j).2.1 (i.trans c)
   ·rcases F h g b K n with c|⟨c,P⟩|⟨c,R⟩
    ·rcases j with j|j
     ·exact(Q.2 _ _ _ c).1 (i▸j)
     ·exact(Q.2 _ _ _ c).2.1 (i▸j)
    ·rw[I]at m;rcases m with x|x|⟨_,x,_⟩
     ·cases x
     ·exact P x
     ·cases x
    ·rw[I]at m;rw[R]at m;rcases m with x|x|⟨_,x,_⟩
     ·cases x
     ·cases x
     ·cases x
 ·obtain⟨x,B,l⟩:=lz E;rcases getElem?_append_cases B with⟨_,L⟩|⟨_,H⟩
  ·rcases v.2 z w (by rwa[touchAt_of L]) n with c|c|⟨c,G⟩
   ·exact p8 (c.app u)
   ·exact n9 (p8 c)
   ·exact n9 (n9 ⟨Xu c,G.imp (Q.5 _ _ _ _ D) id⟩)
  ·have:=knows_own B;rw[A x H]at this;exact p8 this
 ·obtain⟨x,B,l⟩:=lz E;rcases getElem?_append_cases B with⟨_,L⟩|⟨_,H⟩
  ·rcases v.3 z w (by rwa[touchAt_of L]) n with c|c|⟨c,G⟩
   ·exact p8 (c.app u)
   ·exact n9 (p8 c)
   ·exact n9 (n9 ⟨Xu c,G.imp (Q.4 _ _ _ _ D) id⟩)
  ·exact n9 (n9 ⟨by simp[r8,B,A x H],F x H w l n⟩)
 ·rw[←v.6];exact jc t (g:=k) (g':=0) Aa u A
def TI.appB(Q:DQ p q N LA LB)(S:0<k)(h:TI p k q N LA LB t e a f)(F:Ol e d)(B:∀g∈u,g.g=k){v}(A:∀g∈u,∀b,g.act.touch? = ni b->b.loc.isMemory=tu->LB d b.loc b.write∨((Gy q b.loc∨b.loc=.obj N)/\b.kind=.atomic))(J:ve (t++u) k=v)(O:∀g∈u,g.act.low d.1.size):TI p k q N LA LB (t++u) d a v:=by
 refine⟨λD=>uu (h.clean D) B λE w H g z b K o=>?_,λE w H l=>?_,λE w H l=>?_,Qs h.over λg z=>n9 (p8 (B g z)),?_,J,R7 h.seen F.size O⟩
 ·have l:b.loc.isMemory=tu:=o.1▸o.2.1;rcases h.3 E w H o.2.1 with P|⟨y,_⟩|⟨_,j⟩
  ·exact P
  ·exfalso;rcases A g z b K l with c|⟨c|c,_⟩
   ·exact(Q.3 _ _ _ c).2.2 (o.1▸y)
   ·exact Q.wgS _ c (o.1▸y)
   ·exact Q.chS (c▸o.1▸y)
  ·exfalso;obtain⟨i,_,r,m⟩:=o;rcases j with j|⟨j,I⟩|⟨j,R⟩
   ·rcases A g z b K l with c|⟨c|c,_⟩
    ·have:=Q.apart d b.loc w.write b.write (i▸Q.4 _ _ _ _ F j) c;rcases r with r|r
     ·rw[this.1]at r;cases r
     ·rw[this.2]at r;cases r
    ·exact(Q.2 _ _ _ j).1 (i▸c)
    ·exact(Q.2 _ _ _ j).2.1 (i.trans c)
   ·rcases A g z b K l with c|⟨_,L⟩
    ·exact(Q.3 _ _ _ c).1 (i▸j)
    ·rw[L]at m;rcases m with x|x|⟨_,_,x⟩
     ·exact I x
     ·cases x
     ·cases x
   ·rcases A g z b K l with c|⟨_,L⟩
    ·exact(Q.3 _ _ _ c).2.1 (i.symm.trans j)
    ·rw[L,R]at m;rcases m with x|x|⟨_,_,x⟩
     ·cases x
     ·cases x
     ·cases x
 ·obtain⟨x,C,M⟩:=lz H;rcases getElem?_append_cases C with⟨_,s⟩|⟨_,n⟩
  ·rcases h.2 E w (by rwa[touchAt_of s]) l with c|c|⟨c,G⟩
   ·exact p8 (c.app u)
   ·exact n9 (p8 c)
   ·exact n9 (n9 ⟨Xu c,G.imp (Q.5 _ _ _ _ F) id⟩)
  ·exact n9 (n9 ⟨by simp[r8,C,B x n],A x n w M l⟩)
 ·obtain⟨x,C,M⟩:=lz H;rcases getElem?_append_cases C with⟨_,s⟩|⟨_,n⟩
  ·rcases h.3 E w (by rwa[touchAt_of s]) l with c|c|⟨c,G⟩
   ·exact p8 (c.app u)
   ·exact n9 (p8 c)
   ·exact n9 (n9 ⟨Xu c,G.imp (Q.4 _ _ _ _ F) id⟩)
  ·have:=knows_own C;rw[B x n]at this;exact p8 this
 ·rw[←h.5];exact jc t (g:=0) (g':=k) Aa u B
def TI.appMute(Q:DQ p q N LA LB)(h:TI p k q N LA LB t e a f)(F:Ol e d)(C:∀j∈u,j.act.touch? = su)(n:ve (t++u) 0=ve t 0)(x:ve (t++u) k=ve t k)(B:∀j∈u,j.act.low d.1.size):TI p k q N LA LB (t++u) d a f:=by
 have m:∀i b,r7 (t++u) i=ni b->r7 t i=ni b:=λi b g=>by
  obtain⟨J,D,K⟩:=lz g;rcases getElem?_append_cases D with⟨_,y⟩|⟨_,L⟩
  ·rwa[touchAt_of y]
  grind
 refine⟨λl=>?_,λi b g r=>?_,λi b g r=>?_,Qs h.over λj s=>n9 (n9 (C j s)),n.trans h.5,x.trans h.6,R7 h.seen F.size B⟩
 ·rintro⟨i,v,z,⟨b,w,g,E,A⟩,H,I⟩;exact h.clean l ⟨i,v,z,⟨b,w,m i b g,m v w E,A⟩,λo=>H (qj u o),λo=>I (qj u o)⟩
 ·rcases h.2 i b (m i b g) r with c|c|⟨c,G⟩
  ·exact p8 (c.app u)
  ·exact n9 (p8 c)
  ·exact n9 (n9 ⟨Xu c,G.imp (Q.5 _ _ _ _ F) id⟩)
 ·rcases h.3 i b (m i b g) r with c|c|⟨c,G⟩
  ·exact p8 (c.app u)
  ·exact n9 (p8 c)
  ·exact n9 (n9 ⟨Xu c,G.imp (Q.4 _ _ _ _ F) id⟩)
def TI.grow(Q:DQ p q N LA LB)(h:TI p k q N LA LB t e a f)(b:Ol e d):TI p k q N LA LB t d a f:=by
 have:=h.appMute (u:=#[]) Q b Ad Ad Ad Ad;simpa using this
end
def Hp(Wg:Nat):Addr:=(iJ Wg)
def KD(Wg:Nat):Addr:=(iK Wg 1)
def Uf(m:Mark):Event:=⟨.mark m,o9,tu⟩
def JZ(a:Addr):Event:=⟨.cell a,o9,tu⟩
def wrE(a:Addr):Event:=⟨.cell a,tu,tu⟩
structure RI(k Wg)(t:ql)(r):Prop where
 act:t.act? r=ni (.mark (.releaseMerge (Hp Wg)))
 g:t.g? r=ni k
 heard:t.heard r
 late:∀i a,r<i->t.g? i=ni k->r7 t i=ni a->Gy Wg a.loc/\a.kind=.atomic/\0<t.deaf k i
 norel:∀i,r<i->t.act? i≠ni (.mark (.release (Hp Wg)))
section
variable {p:hZ} {k N:Nat} {LA LB:O->Loc->Bool->Prop} {a:Nat}
def RI.app(h:RI k q t r)(e:∀j∈u,j.act≠.mark (.release (Hp q)))(w:∀i a,t.size<=i->(t++u).g? i=ni k->r7 (t++u) i=ni a->Gy q a.loc/\a.kind=.atomic/\0<(t++u).deaf k i):RI k q (t++u) r:=by
 have m:=lt_of_act? h.act;refine⟨by rw[act?_old m];exact h.act,Xu h.g,(uf m).2 h.heard,λi a d o n=>?_,λi d f=>?_⟩
 ·rcases Nat.lt_or_ge i t.size with b|p
  ·have:=h.late i a d (by rwa[g?_old b]at o) (by rwa[touchAt_old b]at n)
   rwa[uz (eS b)]
  grind
 ·obtain⟨j,s,c⟩:=bB.1 f;rcases getElem?_append_cases s with⟨b,g⟩|⟨_,l⟩
  ·exact h.norel i d (by rw[act?_of g,c])
  ·exact e j l c
def RI.appOther(h:RI k q t r)(f:∀b∈u,b.g≠k/\b.act≠.mark (.release (Hp q))):=
 h.app (λb c=>(f b c).2) λi a g d _=>by
  have ⟨b,j,e⟩:=bB.1 d
  grind
def RI.appOwn(h:RI k q t r)(b c X)(A:∀a∈X,a.loc≠.mark (.release (Hp q)))(n:∀j a,X[j]?=ni a->(MemAct.ofEvent a).touch? = su∨((∃f wr,a=⟨.cell f,wr,tu⟩/\f.block=q)/\0<vq (ve t k) (X.extract 0 j))):RI k q (t++MemOp.ofEvents k b c X) r:=by
 refine h.app (λu p a=>?_) λi m E D e=>?_
 ·obtain⟨x,B,rfl⟩:=o1 p;apply A x B;obtain⟨g,wr,v⟩:=x;cases g with
  |mark w=>cases wr<;>cases v<;>simp[MemAct.ofEvent]at a<;>rw[a]
  |obj F=>cases wr<;>cases v<;>simp[MemAct.ofEvent]at a
  |_=>simp[MemAct.ofEvent]at a
 ·obtain⟨u,G,d⟩:=lz e;have s:(MemOp.ofEvents k b c X)[i - t.size]?=ni u:=by
   grind
  rw[ofEvents_eq,aN]at s;obtain⟨a,z,rfl⟩:=bB.1 s;have o:i - t.size<=X.size:=by
   grind
  rcases n _ a z with C|⟨⟨f,wr,rfl,l⟩,y⟩
  ·grind
  ·have:=deaf_inside t k b c X (i - t.size) o;rw[show t.size+(i - t.size)=i by omega]at this;rw[this];cases wr<;>simp[MemAct.ofEvent,MemAct.touch?]at d<;>subst d<;>exact⟨⟨f,iP,l⟩,iP,y⟩
def ofEvents_one(g fn pos m):MemOp.ofEvents g fn pos #[Uf m]=#[{ g,fn,pos,act:=.mark m }]:=by
 rw[ofEvents_eq];simp[Uf,MemAct.ofEvent]
def RI.new(f:ve t k=0)(fn pos):RI k q (t++MemOp.ofEvents k fn pos #[Uf (.releaseMerge (Hp q))]) t.size:=by
 rw[ofEvents_one];have g:(t++#[({ g:=k,fn,pos,act:=.mark (.releaseMerge (Hp q)) }:MemOp)])[t.size]?=ni { g:=k,fn,pos,act:=.mark (.releaseMerge (Hp q)) }:=Ad;have su:∀i,t.size<i->(t++#[({ g:=k,fn,pos,act:=.mark (.releaseMerge (Hp q)) }:MemOp)])[i]?=su:=λi b=>by
  grind
 refine⟨by rw[act?_of g],by simp[r8],⟨k,by simp[r8],by rwa[uz (aB _)]⟩,λi a b c _=>?_,λi b e=>?_⟩
 ·unfold r8 at c;rw[su i b]at c;cases c
 ·unfold Trace.act? at e;rw[su i b]at e;cases e
def TI.join(hk:0<k)(h:TI p k q N LA LB t e 0 f)(R:RI k q t r)(fn pos)(hW:q<iS e.1):Past (λl=>p l∨Gy q l) e.1.size (t++MemOp.ofEvents 0 fn pos #[Uf (.acquire (Hp q))]):=by
 rw[ofEvents_one];have U:(t++#[({ g:=0,fn,pos,act:=.mark (.acquire (Hp q)) }:MemOp)])[t.size]?=ni { g:=0,fn,pos,act:=.mark (.acquire (Hp q)) }:=Ad;have M:=lt_of_act? R.act;obtain⟨T,d,D⟩:=bB.1 R.act;have Q:T.g=k:=by
  have:=R.g;simpa[r8,d] using this
 have V:xk (t++#[({ g:=0,fn,pos,act:=.mark (.acquire (Hp q)) }:MemOp)]) r t.size:=
  .single (n9 ⟨.marked (a:=Hp q) M (n9 (by rw[act?_old M];exact R.act)) (by rw[act?_of U]) (λj u F=>by rw[act?_old F];exact R.norel j u),
   (uf M).2 R.heard,⟨0,by simp[r8],by rw[uz (aB _)];exact h.5⟩⟩)
 have L:∀i s,t[i]?=ni s->s.g=k->i<r->xk (t++#[({ g:=0,fn,pos,act:=.mark (.acquire (Hp q)) }:MemOp)]) i t.size:=λi s W I c=>
  (qj _ (hb_po c W d (I.trans Q.symm))).trans V
 have o:∀i a,r7 (t++#[({ g:=0,fn,pos,act:=.mark (.acquire (Hp q)) }:MemOp)]) i=ni a->i<t.size/\r7 t i=ni a:=λi a B=>by
  obtain⟨x,P,A⟩:=lz B;rcases getElem?_append_cases P with⟨c,b⟩|⟨_,X⟩
  ·exact⟨c,by rwa[touchAt_of b]⟩
  ·have:x = { g:=0,fn,pos,act:=.mark (.acquire (Hp q)) }:=by simpa using X
   rw[this]at A;cases A
 refine⟨λY=>?_,λi a B Z=>?_,λi g I a1 H=>?_,?_,?_⟩
 ·rintro⟨i,j,J,⟨a,O,B,G,H⟩,n1,n2⟩;exact h.clean Y ⟨i,j,J,⟨a,O,(o i a B).2,(o j O G).2,H⟩,λz=>n1 (qj _ z),λz=>n2 (qj _ z)⟩
 ·obtain⟨c,v⟩:=o i a B;rcases h.2 i a v Z with u|⟨u,F⟩|⟨u,F⟩
  ·exact p8 (u.app _)
  ·exact n9 ⟨p8 u,F⟩
  ·obtain⟨s,y,E⟩:=bB.1 u;rcases gF i r with n|rfl|K
   ·exact p8 ⟨t.size,_,U,iP,n9 (L i s y E n)⟩
   ·rw[d]at y;obtain rfl:=aA y;rw[touchAt_of d,D]at v;cases v
   ·obtain⟨x1,x2,_⟩:=R.late i a K u v;exact n9 ⟨n9 x1,x2⟩
 ·obtain⟨x,P,a6,m⟩:=H;obtain⟨c,b⟩:=o i x P;have w:t.g? i=ni g:=by rwa[g?_old c]at I
  by_cases C:g=k
  ·subst C;obtain⟨s,y,E⟩:=bB.1 w;rcases gF i r with n|rfl|K
   ·exact⟨t.size,by simp[r8],L i s y E n⟩
   ·rw[d]at y;obtain rfl:=aA y;rw[touchAt_of d,D]at b;cases b
   ·obtain⟨_,y2,y3⟩:=R.late i x K w b;exfalso;rcases m with m|m
    ·exact m y2
    ·obtain⟨g1,S,e2⟩:=(uf c).1 m;rw[w]at S;obtain rfl:=aA S;omega
  ·obtain⟨j,hj,G⟩:=h.over i g w a1 C ⟨x,b,a6,m.imp id (uf c).1⟩;exact⟨j,Xu hj,qj _ G⟩
 ·rw[Deaf_push];exact h.5
 ·refine oy h.seen λs a7=>?_;have:s = { g:=0,fn,pos,act:=.mark (.acquire (Hp q)) }:=by simpa using a7
  rwa[this]
end
def Va:Obj->Prop
 |.pending _ _=>False
 |.view _ _=>False
 |_=>True
structure I0(K:Nat->Obj->Prop)(w w':qg):Prop where
 tape:w'.tape=w.tape
 os:w'.os=w.os
 output:w'.output=w.output
 size:iS w.1<=iS w'.1
 keep:∀i(o:Obj),w.1[i]?=ni o->K i o->w'.1[i]?=ni o
 far:∀(i:Nat)o,w'.1[i]?=ni o->¬Va o->w.1[i]?=ni o
def I0.refl(K:Nat->Obj->Prop)(w):I0 K w w:=⟨iP,iP,iP,aB _,λ_ _ h _=>h,λ_ _ h _=>h⟩
def I0.trans{a b c}(h:I0 K a b)(d:I0 K b c):I0 K a c:=
 ⟨d.tape.trans h.tape,d.os.trans h.os,d.output.trans h.output,aF h.size d.size,λi o e k=>d.keep i o (h.keep i o e k) k,λi o e n=>h.6 i o (d.6 i o e n) n⟩
def I0.at(K:Nat->Obj->Prop)(w d):I0 K w (w.at d):=⟨iP,iP,iP,aB _,λ_ _ h _=>h,λ_ _ h _=>h⟩
def KK:Int:=4294967296
def JU(ty:F)(st sm:Int):Obj:=.cells #[pq .u64 st,pq .u32 sm] ty
def Eh(ty:F)(Wg:Nat)(w:O)(st sm:Int):Prop:=w.1[Wg]?=ni (JU ty st sm)
def E3(ty:F)(Wg:Nat)(w:O):Prop:=∃st sm,Eh ty Wg w st sm
def Aa3(ty:F)(Wg Ch:Nat)(w:O):Prop:=E3 ty Wg w/\∃s r tm,w.1[Ch]?=ni (.chan 0 #[] tu s r tm)
structure KG where
 P:vg
 Shun:Loc->Prop
 k:Nat
 Wg:Nat
 Ch:Nat
 ty:mi
 LA:qg->Loc->Bool->Prop
 LB:qg->Loc->Bool->Prop
 KB:Nat->Obj->Prop
 w0:qg
 PostA:o5->qg->Prop
structure KG.Ok(C:KG):Prop where
 hk:0<C.k
 parts:DQ C.Shun C.Wg C.Ch C.LA C.LB
 neq:C.Wg≠C.Ch
 kb:∀i o,C.9 i o->i≠C.Wg
 postAt:∀g w d,C.11 g (w.at d)↔C.11 g w
def RG(ty:F)(Wg:Nat)(w w₁:O):Prop:=E3 ty Wg w->E3 ty Wg w₁
def rgT{I}:∀a b c,RG I q a b->RG I q b c->RG I q a c:=λ_ _ _ h k x=>k (h x)
def PH{I}:RG I q w w:=id
abbrev D0:O->O->Array Event->Prop:=Go.ConcX.DC0
section
variable (P:vg) (I:mi) (b:Nat)
def BD4(g:T)(w:O):Prop:=
 g.status=.running/\((∃st,Eh I b w st 0)->∃g',E P o9 g w=.go g' (w.setCell (KD b) (pq .u32 1)) (semEvents (KD b))/\vx P g=tu/\∃q,QuitsD P q 1 g')
def BD3(g:T)(w:O):Prop:=
 g.status=.running/\((∃st,Eh I b w st 0)->∃g',E P o9 g w=.go g' (w.setCell (Hp b) (pq .u64 0)) #[wrE (Hp b)]/\∃m,y P o9 (RG I b) D0 (BD4 P I b) m g' (w.setCell (Hp b) (pq .u64 0)))
def BD2(g:T)(w:O):Prop:=
 g.status=.running/\(Eh I b w 1 0->∃g',E P o9 g w=.go g' w #[JZ (Hp b)]/\∃m,y P o9 (RG I b) D0 (BD3 P I b) m g' w)
def BD1(g:T)(w:O):Prop:=
 g.status=.running /\
  (Eh I b w KK 0->∃g',E P o9 g w=.go g' (w.setCell (Hp b) (pq .u64 0)) #[JZ (Hp b),wrE (Hp b)]/\∃q,QuitsD P q 1 g') /\
  (Eh I b w (KK+1) 0->∃g',E P o9 g w=.go g' (w.setCell (Hp b) (pq .u64 1)) #[JZ (Hp b),wrE (Hp b)]/\∃m,y P o9 (RG I b) D0 (BD2 P I b) m g' (w.setCell (Hp b) (pq .u64 1)))
def BK1(g:T)(w:O):Prop:=
 g.status=.running/\∃g',E P o9 g w=.go g' w #[Uf .disable]/\∃m,y P o9 (RG I b) D0 (BD1 P I b) m g' w
def BR0(g:T)(w:O):Prop:=
 g.status=.running/\∃g',E P o9 g w=.go g' w #[Uf (.releaseMerge (Hp b))]/\∃m,y P o9 (RG I b) D0 (BK1 P I b) m g' w
end
section
variable (C:KG)
def Am5(g:T)(w:O):Prop:=
 g.status=.running/\∃g',E C.P tu g w=.go g' w #[Uf (.acquire (Hp C.Wg))]/\g'.status=.running/\C.11 g' w
def AKe(g:T)(w:O):Prop:=
 g.status=.running/\∃g',E C.P tu g w=.go g' w #[Uf .enable]/\∃m,y C.P tu (RG C.ty C.Wg) D0 (Am5 C) m g' w
def AW4(g:T)(w:O):Prop:=
 g.status=.running/\(Eh C.ty C.Wg w 0 0->∃g',E C.P tu g w=.go g' w #[JZ (Hp C.Wg)]/\∃m,y C.P tu (RG C.ty C.Wg) D0 (AKe C) m g' w)
def AW3(g:T)(w:O):Prop:=
 g.status=.running/\g.5=su /\
  ((∃st,Eh C.ty C.Wg w st 0)->E C.P tu g w=.go { g with status:=.blocked } w #[]) /\
  (Eh C.ty C.Wg w 0 1->∃g',E C.P tu g w=.go g' (w.setCell (KD C.Wg) (pq .u32 0)) (semEvents (KD C.Wg))/\∃m,y C.P tu (RG C.ty C.Wg) D0 (AW4 C) m g' (w.setCell (KD C.Wg) (pq .u32 0)))
def AWm(g:T)(w:O):Prop:=
 g.status=.running/\∃g',E C.P tu g w=.go g' w #[Uf (.write (KD C.Wg))]/\∃m,y C.P tu (RG C.ty C.Wg) D0 (AW3 C) m g' w
def AW2(g:T)(w:O):Prop:=
 g.status=.running /\
  (Eh C.ty C.Wg w KK 0->∃g',E C.P tu g w=.go g' (w.setCell (Hp C.Wg) (pq .u64 (KK+1))) #[JZ (Hp C.Wg),wrE (Hp C.Wg)]/\∃m,y C.P tu (RG C.ty C.Wg) D0 (AWm C) m g' (w.setCell (Hp C.Wg) (pq .u64 (KK+1)))) /\
  (Eh C.ty C.Wg w 0 0->∃g',E C.P tu g w=.go g' w #[JZ (Hp C.Wg)]/\∃m,y C.P tu (RG C.ty C.Wg) D0 (AW4 C) m g' w)
def AW1(g:T)(w:O):Prop:=
 g.status=.running /\
  (Eh C.ty C.Wg w KK 0->∃g',E C.P tu g w=.go g' w #[JZ (Hp C.Wg)]/\∃m,y C.P tu (RG C.ty C.Wg) D0 (AW2 C) m g' w) /\
  (Eh C.ty C.Wg w 0 0->∃g',E C.P tu g w=.go g' w #[JZ (Hp C.Wg)]/\∃m,y C.P tu (RG C.ty C.Wg) D0 (AKe C) m g' w)
def AKd(g:T)(w:O):Prop:=
 g.status=.running/\∃g',E C.P tu g w=.go g' w #[Uf .disable]/\∃m,y C.P tu (RG C.ty C.Wg) D0 (AW1 C) m g' w
def ARc(g:T)(w:O):Prop:=
 g.status=.running/\∃z,E C.P tu g w=.comm (core g) #[ue C.Ch z] tu (.recv tu) w #[]/\∀w₂,RG C.ty C.Wg w w₂->∃m,y C.P tu (RG C.ty C.Wg) D0 (AKd C) m (jy (core g) (my #[z,.bool o9])) w₂
end
section
variable {C:KG} {a:Nat}
abbrev KG.TI(C:KG)(t:ql)(e:O)(a f:Nat):Prop:=Pair.TI C.Shun C.k C.Wg C.Ch C.LA C.LB t e a f
def WC(Wg:Nat)(e:Event):Prop:=(∃a wr,e=⟨.cell a,wr,tu⟩/\a.block=Wg)∨e=Uf .disable∨e=Uf .enable∨e=Uf (.write (KD Wg))∨e=Uf (.read (KD Wg))
def WE(Wg:Nat)(e:Event):Prop:=(∃a wr,e=⟨.cell a,wr,tu⟩/\a.block=Wg)∨e=Uf .disable∨e=Uf .enable∨e=Uf (.releaseMerge (Hp Wg))
def Ml(a wr):MemAct.ofEvent ⟨.cell a,wr,tu⟩=.access ⟨.cell a,wr,tu⟩:=iP
def Nk(m):MemAct.ofEvent (Uf m)=.mark m:=iP
def Aml(O:C.Ok)(h:C.TI t e a f)(m:Ol e d)(j:C.Wg<iS d.1)(c:∀g∈X,WC C.Wg g)(u k):C.TI (t++MemOp.ofEvents 0 u k X) d (vq a X) f:=by
 refine h.appA O.parts O.1 m (λl G=>Ck G) (λl G n Z _=>?_) ?_ (λl G=>?_)
 ·obtain⟨g,N,rfl⟩:=o1 G;rcases c g N with⟨b,wr,rfl,i⟩|rfl|rfl|rfl|rfl
  ·simp only[Ml,MemAct.touch?,aW]at Z;subst Z;exact n9 (p8 ⟨⟨b,iP,i⟩,Ad⟩)
  ·cases Z
  ·cases Z
  ·exact Nzq
  ·exact Nzq
 ·rw[ui,h.5]
 ·obtain⟨g,N,rfl⟩:=o1 G;rcases c g N with⟨b,wr,rfl,i⟩|rfl|rfl|rfl|rfl
  ·show b.block<_
   rwa[i]
  ·trivial
  ·trivial
  ·exact j
  ·exact j
def JS(O:C.Ok)(y:C.TI t e a f)(m:Ol e d)(k:C.Wg<iS d.1)(c:∀g∈X,WE C.Wg g)(u j):C.TI (t++MemOp.ofEvents C.k u j X) d a (vq f X):=by
 refine y.appB O.parts O.1 m (λl G=>Ck G) (λl G n Z _=>?_) ?_ (λl G=>?_)
 ·obtain⟨g,N,rfl⟩:=o1 G;rcases c g N with⟨b,wr,rfl,i⟩|rfl|rfl|rfl
  ·simp only[Ml,MemAct.touch?,aW]at Z;subst Z;exact n9 ⟨p8 ⟨b,iP,i⟩,Ad⟩
  ·cases Z
  ·cases Z
  ·cases Z
 ·rw[ui,y.6]
 ·obtain⟨g,N,rfl⟩:=o1 G;rcases c g N with⟨b,wr,rfl,i⟩|rfl|rfl|rfl
  ·show b.block<_
   rwa[i]
  ·trivial
  ·trivial
  ·exact k
def Afq(O:C.Ok)(h:C.TI t e a f)(l:Ol e d)(g:C.Ch<iS d.1)(u m):C.TI (t++MemOp.ofEvents C.k u m #[⟨.obj C.Ch,o9,tu⟩,⟨.obj C.Ch,tu,tu⟩]) d a f:=by
 refine h.appB O.parts O.1 l (λi b=>Ck b) (λi b n j _=>?_) ?_ (λi b=>?_)
 ·obtain⟨k,c,rfl⟩:=o1 b;simp at c;rcases c with rfl|rfl
  ·simp[MemAct.ofEvent,MemAct.touch?]at j
   grind
  ·simp[MemAct.ofEvent,MemAct.touch?]at j
 ·rw[ui,deafBehind_still λk c=>Ai];exact h.6
 ·obtain⟨k,c,rfl⟩:=o1 b;simp at c;rcases c with rfl|rfl
  ·exact g
  ·exact g
def Aij(O:C.Ok)(h:C.TI t e a f)(i:Ol e d)(g:∀b∈u,b.act.touch? = su/\(∀m,b.act≠.mark m)/\b.act.low d.1.size):C.TI (t++u) d a f:=
 h.appMute O.parts i (λb c=>(g b c).1) (lg t 0 u λb c=>⟨(g b c).2.1 _,(g b c).2.1 _⟩) (lg t C.k u λb c=>⟨(g b c).2.1 _,(g b c).2.1 _⟩) λb c=>(g b c).2.2
def FW(O:C.Ok)(b:C.TI t e a f)(F:i≠0)(l:i≠C.k)(L:∀h∈X,Event.mute h=tu)(u d):C.TI (t++MemOp.ofEvents i u d X) e a f:=
 b.appMute O.parts (.refl e) Ahe (jc t (dN (dN F)) _ λk T=>Ck T) (jc t l _ λk T=>Ck T)
  λk T=>by obtain⟨h,N,rfl⟩:=o1 T;exact low_mute (L h N) _
def TI.at(O:C.Ok)(h:C.TI t e a f)(d):C.TI t (e.at d) a f:=h.grow O.parts (.at e d)
def Lo{I a b}(h:Eh I a e b sm)(x):Eh I a (e.setCell (Hp a) (pq .u64 x)) x sm:=by
 unfold Eh at h⊢;simp[q9,Hp,JU,bS,h]
def JV{I a b}(h:Eh I a e b sm)(x):Eh I a (e.setCell (KD a) (pq .u32 x)) b x:=by
 unfold Eh at h⊢;simp[q9,KD,JU,bS,h]
def Ef(a v)(h:i≠a.block):(e.setCell a v).1[i]?=e.1[i]?:=by
 simp[q9,bS,dN h]
def Qz(a v):(e.setCell a v).1.size=iS e.1:=by simp[q9]
def Ahb(a v)(i:Nat)(o)(h:(e.setCell a v).1[i]?=ni o)(f:¬Va o):e.1[i]?=ni o:=by
 by_cases d:i=a.block
 ·subst d;simp[q9,bS]at h;have ⟨g,c,b⟩:=h;rw[c];revert b;cases g<;>intro b<;>first|exact aK ni b|(subst b;exact absurd trivial f)
 ·rwa[Ef a v d]at h
def EL(a v)(h:∀i o,K i o->i≠a.block):I0 K e (e.setCell a v):=
 ⟨iP,iP,iP,Ad,λi o b k=>by rwa[Ef a v (h i o k)],Ahb a v⟩
def Zz(a v):Ol e (e.setCell a v):=by
 refine⟨Ad,λi o h=>?_⟩;by_cases d:i=a.block
 ·subst d;simp[q9,bS,h];cases o<;>rfl
 ·exact⟨o,by rwa[Ef a v d],iP⟩
def GA{I a b}(h:Eh I a e b sm):a<iS e.1:=by
 unfold Eh at h
 grind
def N7(h:e.1[i]?=ni o):i<iS e.1:=by
 grind
def Wy(h:i≠c):({ e with heap:=e.1.setIfInBounds c o }:O).1[i]?=e.1[i]?:=by
 grind
def NT(h:c<iS e.1):({ e with heap:=e.1.setIfInBounds c o }:O).1[c]?=ni o:=by
 simp[h]
def Ac4{a}(h:e.1[c]?=ni a)(b:kindOf o=kindOf a):Ol e { e with heap:=e.1.setIfInBounds c o }:=by
 refine⟨Ad,λi x d=>?_⟩
 grind
end
def CH(w w':O):Prop:=w'.os=w.os/\w'.output=w.output
inductive AT|rc|kd|w1|w2|wz|wm|w3|w4|ke|ac
inductive BT|r0|k1|d1|d2|d3|d4|qt
def X2:AT->Nat
 |.rc=>12|.kd=>11|.w1=>10|.w2=>9|.wz=>8|.wm=>8|.w3=>7|.w4=>6|.ke=>5|.ac=>4
def KC:BT->Nat
 |.r0=>7|.k1=>6|.d1=>5|.d2=>4|.d3=>3|.d4=>2|.qt=>1
def dfA:AT->Nat
 |.rc|.kd|.ac=>0|_=>1
def dfB:BT->Nat
 |.r0|.k1=>0|_=>1
def J6:AT->BT->Option (Int×Int)
 |.rc,.qt|.kd,.qt|.w1,.qt|.w2,.qt|.wz,.qt|.w4,.qt|.ke,.qt|.ac,.qt=>ni (0,0)
 |.wm,.qt|.w3,.qt=>ni (0,1)
 |.wm,.d4|.w3,.d4=>ni (0,0)
 |.wm,.d3|.w3,.d3|.wm,.d2|.w3,.d2=>ni (1,0)
 |.wm,.r0|.w3,.r0|.wm,.k1|.w3,.k1|.wm,.d1|.w3,.d1=>ni (KK+1,0)
 |.rc,.r0|.rc,.k1|.rc,.d1|.kd,.r0|.kd,.k1|.kd,.d1|.w1,.r0|.w1,.k1|.w1,.d1|.w2,.r0|.w2,.k1|.w2,.d1=>ni (KK,0)
 |_,_=>su
section
variable (C:KG)
def StA:AT->T->O->Prop
 |.rc=>ARc C|.kd=>AKd C|.w1=>AW1 C|.w2=>AW2 C|.wz=>AW4 C|.wm=>AWm C|.w3=>AW3 C|.w4=>AW4 C|.ke=>AKe C|.ac=>Am5 C
def StB:BT->T->O->Prop
 |.r0=>BR0 C.P C.ty C.Wg|.k1=>BK1 C.P C.ty C.Wg|.d1=>BD1 C.P C.ty C.Wg|.d2=>BD2 C.P C.ty C.Wg|.d3=>BD3 C.P C.ty C.Wg|.d4=>BD4 C.P C.ty C.Wg|.qt=>λ_ _=>False
def Lz(ta:AT)(ra:Nat)(a:T)(w:O):Prop:=
 (∃n,ra=n+1/\y C.P tu (RG C.ty C.Wg) D0 (StA C ta) n a w) ∨
 (ta=.w3/\ra=0/\∃g,a = { g with status:=.blocked }/\∀w₁,RG C.ty C.Wg w w₁->AW3 C g w₁)
def Pq(tb:BT)(rb dB:Nat)(b:T)(w:O):Prop:=
 (tb≠.qt/\dB=dfB tb/\∃n,rb=n+1/\y C.P o9 (RG C.ty C.Wg) D0 (StB C tb) n b w)∨(tb=.qt/\QuitsD C.P rb dB b)
structure J2(ta tb ra rb a b)(w:qg)(t):Prop where
 ch:∃s r tm,w.1[C.Ch]?=ni (.chan 0 #[] tu s r tm)
 wg:∃st sm,J6 ta tb=ni (st,sm)/\Eh C.ty C.Wg w st sm
 ti:∃dB,C.TI t w (dfA ta) dB/\Pq C tb rb dB b w
 sa:Lz C ta ra a w
 nb:tb=.qt->ra≠0
 kp:I0 C.9 C.w0 w
 rel:tb≠.r0->∃r,RI C.k C.Wg t r
end
section
variable {C:KG} {a b:T} {U:AT} {tb:BT} {I:Nat}
def StA.running(h:StA C U g w):g.status=.running:=by cases U<;>exact h.1
def StB.running(h:StB C tb g w):g.status=.running:=by cases tb<;>first|exact h.1|exact h.elim
def Lz.rely(h:Lz C U I a e)(d:RG C.ty C.Wg e w'):Lz C U I a w':=by
 rcases h with⟨n,c,k⟩|⟨f,i,g,j,l⟩
 ·exact p8 ⟨n,c,Goes.rely rgT k d⟩
 ·exact n9 ⟨f,i,g,j,λm b=>l m (rgT _ _ _ d b)⟩
def Pq.rely(h:Pq C tb j f b e)(c:RG C.ty C.Wg e w'):Pq C tb j f b w':=by
 rcases h with⟨a,d,n,g,i⟩|h
 ·exact p8 ⟨a,d,n,g,Goes.rely rgT i c⟩
 ·exact n9 h
def Lz.status(h:Lz C U I a e):(a.status=.running/\I≠0)∨(a.status=.blocked/\I=0/\U=.w3):=by
 rcases h with⟨n,c,b⟩|⟨d,f,g,rfl,_⟩
 ·exact p8 ⟨b.running (λ_ _=>StA.running) e PH,Aa⟩
 grind
def Pq.status(h:Pq C tb j f b e):b.status=.running∨(b.status=.finished/\tb=.qt):=by
 rcases h with⟨_,_,n,c,a⟩|⟨c,h⟩
 ·exact p8 (a.running (λ_ _=>StB.running) e PH)
 ·exact h.status.imp id λx=>⟨x,c⟩
def El{P o}(h:o.status=.running∨o.status=.finished):woken P g R w o=o:=by
 unfold woken;split
 ·exact again_running _ h
 ·rfl
def Pq.woken{P}(h:Pq C tb j f b e)(g R B):woken P g R B b=b:=El (h.status.imp id (·.1))
def Lz.woken{P}(h:Lz C U I a e)(g R B):∃b,b<=I+1/\(I≠0->b≠0)/\Lz C U b (woken P g R B a) e:=by
 rcases h with⟨n,c,q⟩|⟨m,t,x,rfl,l⟩
 ·refine⟨I,Aa,id,?_⟩;rw[El (p8 (q.running (λ_ _=>StA.running) e PH))];exact p8 ⟨n,c,q⟩
 ·have p:=l e PH;by_cases r:(vx P g&&R.status != .blocked&&R.status != .waiting)=tu
  ·refine⟨1,Aa,λ_=>Aa,p8 ⟨0,iP,?_⟩⟩;have k:vr P g R B { x with status:=.blocked }=x:=by
    unfold vr;rw[aJ r];obtain⟨f,d,s,o,w⟩:=x;have u:=p.1;have v:=p.2.1;subst u v
    rfl
   rw[k];subst m;exact λj i=>l j i
  ·refine⟨I,Aa,id,?_⟩;have k:vr P g R B { x with status:=.blocked } = { x with status:=.blocked }:=by
    unfold vr;rw[aL r]
   rw[k];exact n9 ⟨m,t,x,iP,l⟩
def Lz.wakes{P}(h:Lz C U I a e)(B)(r:(vx P g&&R.status != .blocked&&R.status != .waiting)=tu):∃i,i≠0/\Lz C U i (vr P g R B a) e:=by
 rcases h with⟨n,d,l⟩|⟨p,v,x,rfl,m⟩
 ·refine⟨I,Aa,?_⟩;rw[El (p8 (l.running (λ_ _=>StA.running) e PH))];exact p8 ⟨n,d,l⟩
 ·have c:=m e PH;refine⟨1,Aa,p8 ⟨0,iP,?_⟩⟩;have k:vr P g R B { x with status:=.blocked }=x:=by
   unfold vr;rw[aJ r];have ⟨o,q,s,u,w⟩:=x;have f:=c.1;have t:=c.2.1;subst f t
   rfl
  rw[k];subst p;exact λj b=>m j b
end
section
variable (C:KG)
structure Fin(a b:o5)(w:qg)(t):Prop where
 run:a.status=.running
 past:Past (λl=>C.Shun l∨Gy C.Wg l) w.1.size t
 quits:∃n,QuitsD C.P n (ve t C.k) b
 post:C.11 a w/\I0 C.9 C.w0 w
 shut:Aa3 C.ty C.Wg C.Ch w
def J(μ:Nat×Nat)(a b:T)(w:O)(t:ql):Prop:=
 (μ=(0,0)/\Fin C a b w t)∨∃ta tb ra rb,μ=(X2 ta+KC tb,ra+2 * rb)/\J2 C ta tb ra rb a b w t
abbrev WH:Nat×Nat->Nat×Nat->Prop:=Prod.Lex (· < ·) (· < ·)
def Ahm:WellFounded WH:=(Prod.lex ⟨_,Nat.lt_wfRel.wf⟩ ⟨_,Nat.lt_wfRel.wf⟩).wf
end
section
variable {C:KG} {a b:T} {U c:AT} {tb g:BT} {I:Nat}
def Ahs(h:∀e∈X,WC C.Wg e)(i:0<C.k)(u d):∀c∈MemOp.ofEvents 0 u d X,c.g≠C.k/\c.act≠.mark (.release (Hp C.Wg)):=by
 intro c b;obtain⟨e,f,rfl⟩:=o1 b;refine⟨by show 0≠C.k;omega,?_⟩;rcases h e f with⟨a,wr,rfl,g⟩|rfl|rfl|rfl|rfl<;>simp[MemAct.ofEvent,Uf]
def IS{g u a}:t++MemOp.ofEvents g u a #[]=t:=by simp[MemOp.ofEvents]
def J2.wgA(O:C.Ok)(q:J2 C U tb I j a b e t){f}(l:∀y∈X,WC C.Wg y){g p}(A:d=e∨∃h v,d=e.setCell h v/\h.block=C.Wg)(z:J6 c tb=ni (p,sm))(r:Eh C.ty C.Wg d p sm)(G:vq (dfA U) X=dfA c)(H:Lz C c g f d)(u:tb=.qt->g≠0):J2 C c tb g j f (woken C.P a f d b) d (t++MemOp.ofEvents 0 a.frame.fn a.frame.place X):=by
 obtain⟨B,E,n⟩:=q.ti;rw[n.woken];obtain⟨s,w,J,M⟩:=q.ch;have F:I0 C.9 e d:=by
  rcases A with rfl|⟨h,v,rfl,m⟩
  ·exact .refl _ _
  ·exact EL h v λi o k=>by rw[m];exact O.kb i o k
 have K:Ol e d:=by
  rcases A with rfl|⟨h,v,rfl,m⟩
  ·exact .refl _
  ·exact Zz h v
 have D:d.1[C.Ch]?=e.1[C.Ch]?:=by
  rcases A with rfl|⟨h,v,rfl,m⟩
  ·rfl
  ·exact Ef h v (by rw[m];exact dN O.neq)
 have x:=Aml O E K (GA r) l a.frame.fn a.frame.place;rw[G]at x;exact⟨⟨s,w,J,by rwa[D]⟩,⟨p,sm,z,r⟩,⟨B,x,n.rely λ_=>⟨p,sm,r⟩⟩,H,u,q.6.trans F,λL=>let⟨w,u⟩:=q.rel L;⟨w,u.appOther (Ahs l O.1 _ _)⟩⟩
def LO(a):∀e∈(#[JZ (Hp a)]:Array Event),WC a e:=λe b=>by
 simp at b;subst b;exact p8 ⟨_,_,iP,iP⟩
def An5(a):∀e∈(#[JZ (Hp a),wrE (Hp a)]:Array Event),WC a e:=λe b=>by
 exact Hw9
def Akq(a):∀e∈semEvents (KD a),WC a e:=λe b=>by
 exact Vks
def Ns{a g}(h:y C.P tu (RG C.ty C.Wg) D0 (StA C a) n g w):Lz C a (n+1) g w:=p8 ⟨n,iP,h⟩
def Amc(O:C.Ok)(h:J2 C U tb I j a b e t)(K:a.status=.running):StepA C.P C.k a b e t λE F d S=>∃M,WH M (X2 U+KC tb,I+2 * j)/\J C M E F d S:=by
 rcases h.sa with⟨n,rfl,G⟩|⟨_,_,g,rfl,_⟩
 rotate_left
 ·cases K
 rcases G.cases with z|⟨D,rfl,N⟩
 rotate_left
 ·obtain⟨g',w1,es,i,⟨rfl,rfl⟩,c⟩:=N e PH;refine p8 ⟨g',_,_,i,_,.right _ Aa,n9 ⟨U,tb,D+1,j,iP,?_⟩⟩;have ⟨aa,T,o⟩:=h.ti;rw[o.woken,IS];exact { h with sa:=p8 ⟨D,rfl,c⟩,nb:=λ_=>by omega }
 have q:=z e PH;obtain⟨v,sm,i,f⟩:=h.wg;cases U with
 |rc=>
  obtain⟨_,R,W,B⟩:=q;obtain⟨m,c⟩:=B e PH;obtain⟨s,r,X,Q⟩:=h.ch;obtain⟨V,w,u⟩:=h.ti;refine n9 (n9 (n9 ⟨core a,C.Ch,R,#[],s,r,X,W,Q,?_,_,.left _ _ (cE (show X2 .kd<X2 .rc by decide) _),n9 ⟨.kd,tb,m+1,j,iP,?_⟩⟩))
  ·rcases u.status with x|⟨x,_⟩<;>rw[x]<;>simp
  ·have l:∀H∈(MemOp.ofEvents 0 a.frame.fn a.frame.place #[]++#[({ g:=0,fn:=(core a).frame.fn,pos:=(core a).frame.place,act:=.recvClosed C.Ch }:MemOp)]),H = { g:=0,fn:=(core a).frame.fn,pos:=(core a).frame.place,act:=.recvClosed C.Ch }:=λH l=>by
    simpa[MemOp.ofEvents] using l
   refine⟨⟨s,r,X,Q⟩,⟨v,sm,?_,f⟩,⟨V,Aij O w (.refl _) λH T=>?_,u⟩,p8 ⟨m,iP,c⟩,λ_=>Aa,h.6,λY=>let⟨r,Z⟩:=h.rel Y;⟨r,Z.appOther λH T=>?_⟩⟩
   ·revert i;cases tb<;>exact id
   ·rw[l H T];exact⟨iP,λm=>Ad,N7 Q⟩
   ·rw[l H T];exact⟨by show 0≠C.k;have:=O.1;omega,Ad⟩
 |kd=>
  obtain⟨_,g',k,m,c⟩:=q;exact p8 ⟨g',e,_,k,_,.left _ _ (cE (show X2 .w1<X2 .kd by decide) _),n9 ⟨.w1,tb,m+1,j,iP,h.wgA O (λo y=>by simp at y;exact n9 (p8 y)) (p8 iP) QV f iP (Ns c) λ_=>Aa⟩⟩
 |w1=>
  obtain⟨_,P,A⟩:=q;have:(v=KK/\sm=0)∨(v=0/\sm=0/\tb=.qt):=by
   exact Ejk
  rcases this with⟨rfl,rfl⟩|⟨rfl,rfl,rfl⟩
  ·obtain⟨g',k,m,c⟩:=P f;exact p8 ⟨g',e,_,k,_,.left _ _ (cE (show X2 .w2<X2 .w1 by decide) _),n9 ⟨.w2,tb,m+1,j,iP,h.wgA O (LO _) (p8 iP) QV f iP (Ns c) λ_=>Aa⟩⟩
  ·obtain⟨g',k,m,c⟩:=A f;exact p8 ⟨g',e,_,k,_,.left _ _ (cE (show X2 .ke<X2 .w1 by decide) _),n9 ⟨.ke,.qt,m+1,j,iP,h.wgA O (LO _) (p8 iP) iP f iP (Ns c) λ_=>Aa⟩⟩
 |w2=>
  obtain⟨_,P,A⟩:=q;have:(v=KK/\sm=0/\J6 .wm tb=ni (KK+1,0)/\tb≠.qt)∨(v=0/\sm=0/\tb=.qt):=by
   exact Ejk
  rcases this with⟨rfl,rfl,L,p⟩|⟨rfl,rfl,rfl⟩
  ·obtain⟨g',k,m,c⟩:=P f;exact p8 ⟨g',_,_,k,_,.left _ _ (cE (show X2 .wm<X2 .w2 by decide) _),n9 ⟨.wm,tb,m+1,j,iP,h.wgA O (An5 _) (n9 ⟨_,_,iP,iP⟩) L (Lo f _) iP (Ns c) λ_=>Aa⟩⟩
  ·obtain⟨g',k,m,c⟩:=A f;exact p8 ⟨g',e,_,k,_,.left _ _ (cE (show X2 .wz<X2 .w2 by decide) _),n9 ⟨.wz,.qt,m+1,j,iP,h.wgA O (LO _) (p8 iP) iP f iP (Ns c) λ_=>Aa⟩⟩
 |wz=>
  obtain⟨_,A⟩:=q;have:v=0/\sm=0/\tb=.qt:=by
   exact Ejk
  obtain⟨rfl,rfl,rfl⟩:=this;obtain⟨g',k,m,c⟩:=A f;exact p8 ⟨g',e,_,k,_,.left _ _ (cE (show X2 .ke<X2 .wz by decide) _),n9 ⟨.ke,.qt,m+1,j,iP,h.wgA O (LO _) (p8 iP) iP f iP (Ns c) λ_=>Aa⟩⟩
 |wm=>
  obtain⟨_,g',k,m,c⟩:=q;exact p8 ⟨g',e,_,k,_,.left _ _ (cE (show X2 .w3<X2 .wm by decide) _),n9 ⟨.w3,tb,m+1,j,iP,h.wgA O (λo y=>by simp at y;exact n9 (n9 (n9 (p8 y)))) (p8 iP) QV f iP (Ns c) λ_=>Aa⟩⟩
 |w3=>
  obtain⟨_,ab,a1,hf⟩:=q;have:(sm=0/\tb≠.qt)∨(v=0/\sm=1/\tb=.qt):=by
   exact Ejk
  rcases this with⟨rfl,p⟩|⟨rfl,rfl,rfl⟩
  ·refine p8 ⟨_,e,_,a1 ⟨v,f⟩,_,.right _ Aa,n9 ⟨.w3,tb,0,j,iP,h.wgA O Ad (p8 iP) i f iP (n9 ⟨iP,iP,a,iP,z⟩) λo=>absurd o p⟩⟩
  ·obtain⟨g',k,m,c⟩:=hf f;exact p8 ⟨g',_,_,k,_,.left _ _ (cE (show X2 .w4<X2 .w3 by decide) _),n9 ⟨.w4,.qt,m+1,j,iP,h.wgA O (Akq _) (n9 ⟨_,_,iP,iP⟩) iP (JV f _) iP (Ns c) λ_=>Aa⟩⟩
 |w4=>
  obtain⟨_,A⟩:=q;have:v=0/\sm=0/\tb=.qt:=by
   exact Ejk
  obtain⟨rfl,rfl,rfl⟩:=this;obtain⟨g',k,m,c⟩:=A f;exact p8 ⟨g',e,_,k,_,.left _ _ (cE (show X2 .ke<X2 .w4 by decide) _),n9 ⟨.ke,.qt,m+1,j,iP,h.wgA O (LO _) (p8 iP) iP f iP (Ns c) λ_=>Aa⟩⟩
 |ke=>
  obtain⟨_,g',k,m,c⟩:=q;exact p8 ⟨g',e,_,k,_,.left _ _ (cE (show X2 .ac<X2 .ke by decide) _),n9 ⟨.ac,tb,m+1,j,iP,h.wgA O (λo y=>by simp at y;exact n9 (n9 (p8 y))) (p8 iP) QV f iP (Ns c) λ_=>Aa⟩⟩
 |ac=>
  obtain⟨_,g',k,a6,a7⟩:=q;have p:tb=.qt:=by cases tb<;>simp[J6]at i<;>rfl
  subst p;obtain⟨r,a8⟩:=h.rel Ad;obtain⟨V,w,u⟩:=h.ti;refine p8 ⟨g',e,_,k,(0,0),.left _ _ (show 0<X2 .ac+KC .qt by decide),p8 ⟨iP,a6,w.join O.1 a8 _ _ (GA f),?_,⟨a7,h.6⟩,⟨⟨_,_,f⟩,h.ch⟩⟩⟩;rw[u.woken];rcases u with⟨x,_⟩|⟨_,ad⟩
  ·exact absurd iP x
  ·refine⟨j,?_⟩
   rwa[jc t (g:=C.k) (g':=0) (by have:=O.1;omega) _ (λH l=>Ck l),w.6]
end
section
variable {C:KG} {a b:T} {U c:AT} {tb tb':BT} {I:Nat}
def J2.wgB(O:C.Ok)(g:J2 C U tb I j a b e t){b' es}(z:∀d∈es,WE C.Wg d){u}(F:w'=e∨∃h v,w'=e.setCell h v/\h.block=C.Wg)(D:J6 U tb'=ni (u,sm))(l:Eh C.ty C.Wg w' u sm)(M:tb≠.qt)(L:vq (dfB tb) es=i)(N:Pq C tb' q i b' w')(A:tb'=.qt->(U=.wm∨U=.w3)->(vx C.P b&&b'.status != .blocked&&b'.status != .waiting)=tu)(hrel:∃r,RI C.k C.Wg (t++MemOp.ofEvents C.k b.frame.fn b.frame.place es) r):∃c,J2 C U tb' c q (woken C.P b b' w' a) b' w' (t++MemOp.ofEvents C.k b.frame.fn b.frame.place es):=by
 obtain⟨H,E,B⟩:=g.ti;obtain⟨s,r,P,R⟩:=g.ch;have G:H=dfB tb:=by
  rcases B with⟨_,d,_⟩|⟨d,_⟩
  ·exact d
  ·exact absurd d M
 have n:I0 C.9 e w':=by
  rcases F with rfl|⟨h,v,rfl,m⟩
  ·exact .refl _ _
  ·exact EL h v λi o k=>by rw[m];exact O.kb i o k
 have J:Ol e w':=by
  rcases F with rfl|⟨h,v,rfl,m⟩
  ·exact .refl _
  ·exact Zz h v
 have K:w'.1[C.Ch]?=e.1[C.Ch]?:=by
  rcases F with rfl|⟨h,v,rfl,m⟩
  ·rfl
  ·exact Ef h v (by rw[m];exact dN O.neq)
 have w:=JS O E J (GA l) z b.frame.fn b.frame.place;rw[G,L]at w;have p:=g.sa.rely (w':=w') λ_=>⟨u,sm,l⟩;have Q:∃c,(tb'=.qt->c≠0)/\Lz C U c (woken C.P b b' w' a) w':=by
  by_cases o:tb'=.qt
  ·by_cases y:U=.wm∨U=.w3
   ·obtain⟨c,f,k⟩:=p.wakes (P:=C.P) w' (A o y);exact⟨c,λ_=>f,k⟩
   ·have:I≠0:=by
     rcases p.status with⟨_,x⟩|⟨_,_,x⟩
     ·exact x
     ·exact absurd (n9 x) y
    obtain⟨c,_,f,k⟩:=p.woken (P:=C.P) b b' w';exact⟨c,λ_=>f this,k⟩
  ·obtain⟨c,_,_,k⟩:=p.woken (P:=C.P) b b' w';exact⟨c,λd=>absurd d o,k⟩
 obtain⟨c,f,k⟩:=Q;exact⟨c,⟨s,r,P,by rwa[K]⟩,⟨u,sm,D,l⟩,⟨i,w,N⟩,k,f,g.6.trans n,λ_=>hrel⟩
def Akr(a):∀e∈(#[JZ (Hp a)]:Array Event),WE a e:=λe b=>by simp at b;subst b;exact p8 ⟨_,_,iP,iP⟩
def Aks(a):∀e∈(#[wrE (Hp a)]:Array Event),WE a e:=λe b=>by simp at b;subst b;exact p8 ⟨_,_,iP,iP⟩
def QM(a):∀e∈(#[JZ (Hp a),wrE (Hp a)]:Array Event),WE a e:=λe b=>by
 exact Hw9
def Ag9(a):∀e∈semEvents (KD a),WE a e:=λe b=>by
 exact Vks
def Xa(h:RI C.k C.Wg t r)(d:ve t C.k=1)(b:X=#[JZ (Hp C.Wg)]∨X=#[wrE (Hp C.Wg)]∨X=#[JZ (Hp C.Wg),wrE (Hp C.Wg)]∨X=semEvents (KD C.Wg))(u c):RI C.k C.Wg (t++MemOp.ofEvents C.k u c X) r:=by
 refine h.appOwn u c X (λe a=>?_) (λj e a=>?_)
 ·rcases b with rfl|rfl|rfl|rfl<;>simp[semEvents,JZ,wrE]at a
  ·subst a;simp
  ·subst a;simp
  ·rcases a with rfl|rfl<;>simp
  grind
 ·rw[d];rcases b with rfl|rfl|rfl|rfl
  ·match j,a with
   |0,a=>simp at a;subst a;exact n9 ⟨⟨_,_,iP,iP⟩,by simp[vq]⟩
  ·match j,a with
   |0,a=>simp at a;subst a;exact n9 ⟨⟨_,_,iP,iP⟩,by simp[vq]⟩
  ·match j,a with
   |0,a=>simp at a;subst a;exact n9 ⟨⟨_,_,iP,iP⟩,by simp[vq]⟩
   |1,a=>simp at a;subst a;exact n9 ⟨⟨_,_,iP,iP⟩,by simp[vq,JZ]⟩
  ·match j,a with
   |0,a=>simp[semEvents]at a;subst a;exact p8 iP
   |1,a=>simp[semEvents]at a;subst a;exact n9 ⟨⟨_,_,iP,iP⟩,by simp[vq,semEvents]⟩
   |2,a=>simp[semEvents]at a;subst a;exact n9 ⟨⟨_,_,iP,iP⟩,by simp[vq,semEvents]⟩
   |3,a=>simp[semEvents]at a;subst a;exact p8 iP
def Vp(a)(b:a≠.qt)(h:y C.P o9 (RG C.ty C.Wg) D0 (StB C a) n g w):Pq C a (n+1) (dfB a) g w:=p8 ⟨b,iP,n,iP,h⟩
def Aiy{P}(h:vx P g=tu)(a:R.status=.running∨R.status=.finished):(vx P g&&R.status != .blocked&&R.status != .waiting)=tu:=by
 grind
def Amd(O:C.Ok)(h:J2 C U tb I j a b e t)(f:b.status=.running):StepB C.P C.k a b e t λu b' w' S=>∃k,WH k (X2 U+KC tb,I+2 * j)/\J C k u b' w' S:=by
 obtain⟨dB,y,P⟩:=h.ti;have ab:=P;obtain⟨M,sm,i,l⟩:=h.wg;rcases P with⟨H,rfl,n,rfl,v⟩|⟨rfl,A⟩
 rotate_left
 ·
  cases j with
  |zero=>rw[A.1]at f;cases f
  |succ m=>
   rcases A with⟨hf,_⟩|⟨_,R,es,o,c,X⟩
   ·grind
   ·obtain⟨s,r,w,K⟩:=h.ch;obtain⟨d,Q,W,Y⟩:=h.sa.woken (P:=C.P) b R e;refine p8 ⟨R,e,es,c e,_,.right (b₂:=I+2 * (m+1)) _ (show d+2 * m<I+2 * (m+1) by omega),n9 ⟨U,.qt,d,m,iP,⟨s,r,w,K⟩,⟨M,sm,i,l⟩,⟨_,?_,n9 ⟨iP,X⟩⟩,Y,λ_=>W (h.nb iP),h.6,λa1=>?_⟩⟩
    ·refine y.appB O.parts O.1 (.refl e) (λop G=>Ck G) (λop G x Z _=>?_) ?_ (λop G=>?_)
     ·exact X4y
     ·rw[ui,y.6]
     ·obtain⟨g,N,rfl⟩:=o1 G;exact low_mute (o g N) _
    ·obtain⟨r,B⟩:=h.rel a1;refine⟨r,B.appOwn _ _ _ (λg N x=>?_) λT g N=>p8 (touch_mute (o g (cI N)))⟩;have:=o g N;obtain⟨ad,wr,sy⟩:=g;simp only at x;subst x;simp[Event.mute]at this
 rcases v.cases with a6|⟨D,rfl,a7⟩
 rotate_left
 ·obtain⟨R,w1,es,a8,⟨rfl,rfl⟩,F⟩:=a7 e PH;obtain⟨d,Q,_,W⟩:=h.sa.woken (P:=C.P) b R w1;refine p8 ⟨R,_,_,a8,_,.right _ (show d+2 * (D+1)<I+2 * (D+1+1) by omega),n9 ⟨U,tb,d,D+1,iP,?_⟩⟩;rw[IS];exact { h with ti:=⟨_,y,p8 ⟨H,rfl,D,rfl,F⟩⟩,sa:=W,nb:=λg=>absurd g H }
 have E:=a6 e PH;cases tb with
 |qt=>exact absurd iP H
 |r0=>
  obtain⟨_,R,c,m,F⟩:=E;obtain⟨d,z⟩:=h.wgB O (tb':=.k1) (es:=#[Uf (.releaseMerge (Hp C.Wg))]) (λg N=>by simp at N;exact n9 (n9 (n9 N))) (p8 iP) (by revert i;cases U<;>exact id) l H iP (Vp .k1 Ad F) Am9 ⟨_,RI.new y.6 _ _⟩;exact p8 ⟨R,e,_,c,_,.left _ _ (dI (show KC .k1<KC .r0 by decide) _),n9 ⟨U,.k1,d,m+1,iP,z⟩⟩
 |k1=>
  obtain⟨_,R,c,m,F⟩:=E;obtain⟨r,B⟩:=h.rel Ad;obtain⟨d,z⟩:=h.wgB O (tb':=.d1) (b':=R) (es:=#[Uf .disable]) (λg N=>by simp at N;exact n9 (p8 N)) (p8 iP) (by revert i;cases U<;>exact id) l H iP (Vp .d1 Ad F) Am9
   ⟨r,B.appOwn _ _ _ (λg N=>by simp at N;subst N;simp[Uf]) λT g N=>p8 RV⟩
  exact p8 ⟨R,e,_,c,_,.left _ _ (dI (show KC .d1<KC .k1 by decide) _),n9 ⟨U,.d1,d,m+1,iP,z⟩⟩
 |d1=>
  obtain⟨_,hK,aa⟩:=E;obtain⟨r,B⟩:=h.rel Ad;have:(M=KK/\sm=0/\J6 U .qt=ni (0,0)/\U≠.wm/\U≠.w3)∨(M=KK+1/\sm=0/\J6 U .d2=ni (1,0)):=by
   exact I04
  rcases this with⟨rfl,rfl,L,p,n2⟩|⟨rfl,rfl,L⟩
  ·obtain⟨R,c,q,A⟩:=hK l;obtain⟨d,z⟩:=h.wgB O (tb':=.qt) (QM _) (n9 ⟨_,_,iP,iP⟩) L (Lo l 0) H iP (n9 ⟨iP,A⟩) (λ_ g=>g.elim (λg=>absurd g p) (λg=>absurd g n2))
    ⟨r,Xa B y.6 (n9 (n9 (p8 iP))) _ _⟩
   exact p8 ⟨R,_,_,c,_,.left _ _ (dI (show KC .qt<KC .d1 by decide) _),n9 ⟨U,.qt,d,q,iP,z⟩⟩
  ·obtain⟨R,c,m,F⟩:=aa l;obtain⟨d,z⟩:=h.wgB O (tb':=.d2) (QM _) (n9 ⟨_,_,iP,iP⟩) L (Lo l 1) H iP (Vp .d2 Ad F) Am9
    ⟨r,Xa B y.6 (n9 (n9 (p8 iP))) _ _⟩
   exact p8 ⟨R,_,_,c,_,.left _ _ (dI (show KC .d2<KC .d1 by decide) _),n9 ⟨U,.d2,d,m+1,iP,z⟩⟩
 |d2=>
  obtain⟨_,E⟩:=E;obtain⟨r,B⟩:=h.rel Ad;have:M=1/\sm=0/\J6 U .d3=ni (1,0):=by
   exact I04
  obtain⟨rfl,rfl,L⟩:=this;obtain⟨R,c,m,F⟩:=E l;obtain⟨d,z⟩:=h.wgB O (tb':=.d3) (Akr _) (p8 iP) L l H iP (Vp .d3 Ad F) Am9 ⟨r,Xa B y.6 (p8 iP) _ _⟩;exact p8 ⟨R,_,_,c,_,.left _ _ (dI (show KC .d3<KC .d2 by decide) _),n9 ⟨U,.d3,d,m+1,iP,z⟩⟩
 |d3=>
  obtain⟨_,E⟩:=E;obtain⟨r,B⟩:=h.rel Ad;have:M=1/\sm=0/\J6 U .d4=ni (0,0):=by
   exact I04
  obtain⟨rfl,rfl,L⟩:=this;obtain⟨R,c,m,F⟩:=E ⟨_,l⟩;obtain⟨d,z⟩:=h.wgB O (tb':=.d4) (Aks _) (n9 ⟨_,_,iP,iP⟩) L (Lo l 0) H iP (Vp .d4 Ad F) Am9 ⟨r,Xa B y.6 (n9 (p8 iP)) _ _⟩;exact p8 ⟨R,_,_,c,_,.left _ _ (dI (show KC .d4<KC .d3 by decide) _),n9 ⟨U,.d4,d,m+1,iP,z⟩⟩
 |d4=>
  obtain⟨_,E⟩:=E;obtain⟨r,B⟩:=h.rel Ad;have:M=0/\sm=0/\J6 U .qt=ni (0,1):=by
   exact I04
  obtain⟨rfl,rfl,L⟩:=this;obtain⟨R,c,V,q,A⟩:=E ⟨_,l⟩;obtain⟨d,z⟩:=h.wgB O (tb':=.qt) (Ag9 _) (n9 ⟨_,_,iP,iP⟩) L (JV l 1) H iP (n9 ⟨iP,A⟩) (λ_ _=>Aiy V A.status)
   ⟨r,Xa B y.6 (n9 (n9 (n9 iP))) _ _⟩
  exact p8 ⟨R,_,_,c,_,.left _ _ (dI (show KC .qt<KC .d4 by decide) _),n9 ⟨U,.qt,d,q,iP,z⟩⟩
end
open Go.ConcN (sumTo upd sumTo_upd upd_ne upd_same)
section
variable {C:KG} {a b:T} {c:Nat×Nat}
def ARc.again{cs c}(h:ARc C g w):ARc C { yv (core g) cs c with status:=.running } w:=
 have e:E C.P tu _ w=E C.P tu g w:=stepG_same iP iP iP w
 let⟨_,z,a,b⟩:=h;⟨iP,z,by exact a,b⟩
def Fin.at(O:C.Ok)(h:Fin C a b e t)(d):Fin C a b (e.at d) t:=⟨h.run,h.past,h.3,⟨(O.5 _ _ _).2 h.post.1,h.post.2.trans (.at _ _ _)⟩,h.shut⟩
def I0.back(K:Nat->Obj->Prop)(w d):I0 K (w.at d) w:=⟨iP,iP,iP,aB _,λ_ _ h _=>h,λ_ _ h _=>h⟩
def Fin.back(O:C.Ok)(d)(h:Fin C a b (e.at d) t):Fin C a b e t:=⟨h.run,h.past,h.3,⟨(O.5 _ _ _).1 h.post.1,h.post.2.trans (.back _ _ d)⟩,h.shut⟩
def J.at(O:C.Ok)(d)(h:J C c a b e t):J C c a b (e.at d) t:=by
 rcases h with⟨f,h⟩|⟨m,n,j,k,f,h⟩
 ·exact p8 ⟨f,h.at O d⟩
 ·have ⟨l,g,i⟩:=h.ti;exact n9 ⟨m,n,j,k,f,h.ch,h.wg,⟨l,g.at O d,i.rely id⟩,h.sa.rely id,h.nb,h.6.trans (.at _ _ _),h.rel⟩
def J.mute(O:C.Ok){u o}(j:i≠0)(p:i≠C.k)(L:∀k∈X,Event.mute k=tu)(h:J C c a b e t):J C c a b e (t++MemOp.ofEvents i u o X):=by
 rcases h with⟨k,h⟩|⟨A,B,d,P,k,h⟩
 ·refine p8 ⟨k,h.run,h.past.mute j L,?_,h.post,h.shut⟩;rw[jc t p _ (λy T=>Ck T)];exact h.3
 ·have ⟨s,l,f⟩:=h.ti;refine n9 ⟨A,B,d,P,k,h.ch,h.wg,⟨s,FW O l j p L _ _,f⟩,h.sa,h.nb,h.6,λq=>let⟨r,g⟩:=h.rel q;⟨r,g.appOther λy T=>?_⟩⟩;obtain⟨k,N,rfl⟩:=o1 T;refine⟨p,λx=>?_⟩;have:=L k N;have ⟨n,wr,z⟩:=k;cases n with
  |mark m=>
   cases wr<;>cases z<;>simp[MemAct.ofEvent]at x<;>subst x<;>simp[Event.mute]at this
  |_=>simp[Event.mute]at this
def J.wake(O:C.Ok)(g R)(h:J C c a b e t):∃l,J C l (woken C.P g R e a) (woken C.P g R e b) e t:=by
 rcases h with⟨d,h⟩|⟨u,v,o,P,d,h⟩
 ·have ⟨n,q⟩:=h.3;refine⟨(0,0),p8 ⟨iP,?_⟩⟩
  rwa[El (p8 h.run),yk q]
 ·have ⟨p,j,f⟩:=h.ti;obtain⟨k,_,i,m⟩:=h.sa.woken g R e;refine⟨_,n9 ⟨u,v,k,P,iP,h.ch,h.wg,⟨p,j,?_⟩,m,λd=>i (h.nb d),h.6,h.rel⟩⟩
  rwa[f.woken]
def J.awake(g:J C c a b e t):awake a/\awake b/\(a.status=.running∨b.status=.running):=by
 have d:∀{h},(h.status=.running∨h.status=.blocked∨h.status=.finished)->Conc.awake h:=λg t i=>by
  grind
 rcases g with⟨i,g⟩|⟨s,u,q,P,i,g⟩
 ·obtain⟨n,l⟩:=g.3;exact⟨d (p8 g.run),d (l.status.imp id n9),p8 g.run⟩
 ·obtain⟨r,p,j⟩:=g.ti;rcases g.sa.status with⟨f,o⟩|⟨f,m,_⟩
  ·exact⟨d (p8 f),d (j.status.imp id λx=>n9 x.1),p8 f⟩
  ·rcases j.status with k|⟨k,l⟩
   ·grind
   ·exact absurd m (g.nb l)
def J.step(O:C.Ok)(h:J C c a b e t):Fin C a b e t∨((a.status=.running->StepA C.P C.k a b e t λl f B g=>∃d,WH d c/\J C d l f B g)/\(b.status=.running->StepB C.P C.k a b e t λl f B g=>∃d,WH d c/\J C d l f B g)):=by
 rcases h with⟨i,h⟩|⟨j,k,m,P,rfl,h⟩
 ·exact p8 h
 ·exact n9 ⟨Amc O h,Amd O h⟩
end
open Go.ConcN (sumTo upd sumTo_upd upd_ne upd_same)
structure Kp(Shun:hZ)(B d t):Prop where
 clean:∀said,¬Race said t
 known:∀i a,r7 t i=ni a->a.loc.isMemory=tu->Knows t 0 i∨(Shun a.loc/\a.kind=.atomic)
 over:t.HandedOver
 hears:ve t 0=d
 seen:∀op∈t,op.act.low B
def Kp.of{p:hZ}(h:Past p B t):Kp p B 0 t:=⟨h.clean,h.known,h.over,h.hears,h.seen⟩
def Kp.to{p}(h:Kp p B 0 t):Past p B t:=⟨h.clean,h.known,h.over,h.hears,h.seen⟩
def EvD(Shun:hZ)(B:Nat)(e:Event):Prop:=(∀x,(MemAct.ofEvent e).touch? = ni x->Shun x.loc->x.kind≠.plain)/\(MemAct.ofEvent e).low B
section
variable {p:hZ} {G d:Nat}
def Kp.mono(h:Kp p B d t)(b:B<=G):Kp p G d t:=⟨h.clean,h.known,h.over,h.hears,λc a=>MemAct.low_mono b (h.seen c a)⟩
def Kp.own(h:Kp p B d t)(w:B<=G){a s X}(f:∀e∈X,EvD p G e):Kp p G (vq d X) (t++MemOp.ofEvents 0 a s X):=by
 refine⟨λj=>uu (h.clean j) (λg c=>Ck c) λi b q g c k y l=>?_,λi b q D=>?_,handedOver_app h.over λg c=>p8 (Ck c),by rw[ui,h.hears],oy (λg c=>MemAct.low_mono w (h.seen g c)) λg c=>?_⟩
 ·rcases h.known i b q l.2.1 with z|⟨o,A⟩
  ·exact z
  ·obtain⟨e,n,rfl⟩:=o1 c;have C:=(f e n).1 k y (l.1▸o);have ⟨_,_,_,m⟩:=l
   grind
 ·have ⟨x,u,E⟩:=lz q;rcases getElem?_append_cases u with⟨_,F⟩|⟨_,L⟩
  ·exact(h.known i b (by rwa[touchAt_of F]) D).imp (·.app _) id
  ·have:=knows_own u;rw[Ck L]at this;exact p8 this
 ·obtain⟨e,n,rfl⟩:=o1 c;exact(f e n).2
def Kp.mute(h:Kp p B d t){g}(s:g≠0){a j}(b:∀e∈X,Event.mute e=tu):Kp p B d (t++MemOp.ofEvents g a j X):=by
 have u:∀f∈MemOp.ofEvents g a j X,f.act.touch? = su:=λf c=>by obtain⟨e,l,rfl⟩:=o1 c;exact touch_mute (b e l)
 refine⟨λm=>uu (h.clean m) (λf c=>Ck c) λi k _ f c q z _=>Ai,λi k r o=>?_,handedOver_app h.over λf c=>n9 (u f c),(jc t s _ λf c=>Ck c).trans h.hears,oy h.seen λf c=>by obtain⟨e,l,rfl⟩:=o1 c;exact low_mute (b e l) B⟩;have ⟨x,v,w⟩:=lz r;rcases getElem?_append_cases v with⟨_,n⟩|⟨_,y⟩
 ·exact(h.known i k (by rwa[touchAt_of n]) o).imp (·.app _) id
 grind
end
def WG(P:vg)(Post:iH)(m:Machine)(t:ql):Prop:=∃N last o w' t',runNT P (N+1) m t=(.ended o w',t')/\runN P N m=.next last/\step P last=.ended o w'/\Good P Post last o w' t'
def Ends(P:vg)(Post:iH)(Shun:hZ)(d:Nat)(g:T)(w:O):Prop:=
 ∀gs sl t (q:Nat->Nat),gs[0]?=ni g->Leavers P t gs q->Kp Shun w.1.size d t->WG P Post (o6 gs w sl) t
section
variable {P:vg} {p:hZ} {d:Nat}
def WG.cons{m a t u}(c:stepT P m=(.next a,u))(h:WG P Y a (t++u)):WG P Y m t:=
 let⟨N,l,o,B,b,x,y,z⟩:=h
 ⟨N+1,l,o,B,b,by rwa[runNT_succ_next c],by rwa[runN_succ_next c],z⟩
def Ends.pick(b:h.status=.running)(e:∀n r sl t (q:Nat->Nat),r[0]?=ni h->Leavers P t r q->Kp p w.1.size d t->∃c u,runT P (o6 r (w.at n) sl) 0=(.next c,u)/\WG P Y c (t++u)):Ends P Y p d h w:=by
 suffices H:∀M r n sl t (q:Nat->Nat),sumTo r.size q<=M->r[0]?=ni h->Leavers P t r q->Kp p w.1.size d t->WG P Y (o6 r (w.at n) sl) t from
  λr sl t q J A a=>H _ r w.drawn sl t q (aB _) J A a
 intro M
 induction M using Nat.strongRecOn with
 |_ M O=>
 intro r C sl t q m J A a;have V:∀x∈r,awake x:=by
  intro x G;obtain⟨i,B,rfl⟩:=Array.mem_iff_getElem.1 G;rcases eX i with rfl|R
  ·have:r[0]=h:=Ai;rw[this];exact awake_of (p8 b)
  ·exact awake_of ((A.old i _ R (aO B)).status.elim p8 λx=>n9 (n9 x))
 obtain⟨i,x,n,v,B,G,F⟩:=crowd_pick (P:=P) (w:=w.at C) (sl:=sl) V ⟨0,h,J,b⟩;have g:(w.at C).at n=w.at n:=iP;rw[g]at F;rcases eX i with rfl|R
 ·obtain⟨c,u,k,K⟩:=e n r v t q J A a;exact .cons (F.trans k) K
 ·have D:=A.old i x R B;have S:(i==0)=o9:=Ah;have T:i<r.size:=(aH.1 B).1;cases W:q i with
  |zero=>rw[W]at D;rw[D.1]at G;cases G
  |succ o=>
   rw[W]at D;rcases D with⟨I,_⟩|⟨_,g',X,L,l,y⟩
   ·rw[I]at G;cases G
   have E:sumTo r.size (upd q i o)+(o+1)=sumTo r.size q+o:=by
    have:=sumTo_upd q o id T;simpa[W] using this
   have U:((r.map (woken P x g' (w.at n))).setIfInBounds i g').size=r.size:=Ad;exact .cons (F.trans (iz (P:=P) (sl:=v) (i:=i) B (by rw[S];exact l (w.at n)))) (O (sumTo r.size (upd q i o)) Aa _ n v _ (upd q i o) (by rw[U];exact aB _)
    (by rw[aE Aa,aN,J];simp[woken_run b])
    ⟨λj z s Z=>by
     by_cases u:i=j
     ·exact Bkt
     ·rw[aE u,aN]at Z;obtain⟨K,a1,rfl⟩:=bB.1 Z;have f:=A.old j K s a1
      rwa[yk f,upd_ne q o (dN u),jc t u _ Anc],λj s=>by
     rw[jc t (g':=i) (by simp at s;omega) _ Anc];exact A.2 j (by simpa using s)⟩ (a.mute Aa L))
theorem Ends.step(b:h.status=.running)(c:∀n,∃g' B X,stepG P true h (w.at n)=.go g' B X∧w.heap.size≤B.heap.size∧(∀e∈X,EvD p B.heap.size e)∧Ends P Y p (deafBehind d X) g' B):Ends P Y p d h w:=
 Ends.pick b fun n r v t q J A a=>by
  obtain⟨g',B,X,g,G,W,i⟩:=c n
  have O:0<r.size:=(Array.getElem?_eq_some_iff.1 J).1
  exact⟨_,_,runT_crowd_go J g,i ((r.map (woken P h g' B)).setIfInBounds 0 g') v (t++MemOp.ofEvents 0 h.frame.fn h.frame.place X) q (by simp [O])
   ⟨fun j y s I=>by
    rw [Array.getElem?_setIfInBounds_ne (by omega),Array.getElem?_map] at I
    obtain⟨z,Z,rfl⟩:=Option.map_eq_some_iff.1 I
    have D:=A.old j z s Z
    rwa [woken_quitsD D,Deaf_other t (by omega) _ (fun op f=>Ck f)],fun j s=>by
    rw [Deaf_other t (g':=0) (by simp at s;omega) _ (fun op f=>Ck f)]
    exact A.above j (by simpa using s)⟩
   (a.own G W)⟩
def Ends.ret(a:h.status=.running)(b:∀n,∃v X,E P tu h (w.at n)=.ended (.done v) (w.at n) X/\(∀e∈X,EvL p w.1.size e)/\Y v (w.at n)):Ends P Y p 0 h w:=by
 intro r G t q d k l;refine beside_ends (D:=λ_ _ _=>False) (n:=0) (λ_ _ _ x=>x.elim) d k l.to λg c=>?_;obtain⟨n,rfl⟩:=c;have ⟨v,X,f,i,j⟩:=b n;exact⟨a,v,X,f,i,j⟩
def Ends.goes{D:O->O->Array Event->Prop}{a:T->O->Prop}(i:∀w B X,D w B X->iS w.1<=iS B.1/\∀e∈X,EvL p B.1.size e)(f:∀g w,a g w->Ends P Y p d g w):∀{n} {g} {w},y P tu qu D a n g w->Ends P Y p d g w
 |0,g,w,h=>f g w (h w (lf w))
 |n+1,g,w,h=>by
  rcases h with h|⟨m,h⟩
  ·exact f g w (h w (lf w))
  ·refine Ends.step m λk=>?_;have:=h _ ⟨k,iP⟩;have ⟨R,B,X,e,j,l⟩:=goes_elim this;have ⟨o,c⟩:=i _ _ _ j;refine⟨R,B,X,e,o,λe b=>⟨(c e b).1,(c e b).2.2.2⟩,?_⟩;rw[deafBehind_still λe b=>⟨(c e b).2.1,(c e b).2.2.1⟩];exact Ends.goes i f l
end
open Go.ConcN (sumTo upd sumTo_upd upd_ne upd_same)
section
variable {P:vg} {p:hZ} {d:Nat}
def Aik{C:KG}{t}(O:0<C.k)(p:Past C.Shun w.1.size t)(H:ve t C.k=0)(fn f k d):C.TI (t++#[({ g:=0,fn:=fn,pos:=k,act:=.go C.k }:MemOp),{ g:=C.k,fn:=f,pos:=d,act:=.start }]) w 0 0:=by
 have r:∀l∈(#[({ g:=0,fn:=fn,pos:=k,act:=.go C.k }:MemOp),{ g:=C.k,fn:=f,pos:=d,act:=.start }]:ql),l.act.touch? = su/\(∀z,l.act≠.mark z)/\l.act.low w.1.size:=λl c=>by
  simp at c;rcases c with rfl|rfl<;>exact⟨iP,Ad,trivial⟩
 have b:(t++#[({ g:=0,fn:=fn,pos:=k,act:=.go C.k }:MemOp),{ g:=C.k,fn:=f,pos:=d,act:=.start }])[t.size]?=ni { g:=0,fn:=fn,pos:=k,act:=.go C.k }:=Ad;have v:(t++#[({ g:=0,fn:=fn,pos:=k,act:=.go C.k }:MemOp),{ g:=C.k,fn:=f,pos:=d,act:=.start }])[t.size+1]?=ni { g:=C.k,fn:=f,pos:=d,act:=.start }:=by
  grind
 have o:∀i a,r7 (t++#[({ g:=0,fn:=fn,pos:=k,act:=.go C.k }:MemOp),{ g:=C.k,fn:=f,pos:=d,act:=.start }]) i=ni a->r7 t i=ni a:=λi a q=>by
  obtain⟨x,u,E⟩:=lz q;rcases getElem?_append_cases u with⟨_,F⟩|⟨_,L⟩
  ·rwa[touchAt_of F]
  grind
 have n:xk (t++#[({ g:=0,fn:=fn,pos:=k,act:=.go C.k }:MemOp),{ g:=C.k,fn:=f,pos:=d,act:=.start }]) t.size (t.size+1):=by
  refine .single (n9 ⟨.spawn (child:=C.k) (by rw[act?_of b]) (by rw[act?_of v]) (by simp only[r8,v,aI]),⟨0,by simp only[r8,b,aI],by rw[uz (aB _)];exact p.hears⟩,⟨C.k,by simp only[r8,v,aI],?_⟩⟩);rw[deaf_succ b,uz (aB _)]
  show deafStep C.k (ve t C.k) _=0;rw[H]
  rfl
 refine⟨λs=>?_,λi a q D=>?_,λi a q D=>?_,Qs (λi g J A _ y=>p.over i g J A y) λl c=>n9 (n9 (r l c).1),(lg t 0 _ λl c=>⟨(r l c).2.1 .disable,(r l c).2.1 .enable⟩).trans p.hears,(lg t C.k _ λl c=>⟨(r l c).2.1 .disable,(r l c).2.1 .enable⟩).trans H,oy p.seen λl c=>(r l c).2.2⟩
 ·rintro⟨i,j,B,⟨a,m,q,I,y⟩,M,N⟩;exact p.clean s ⟨i,j,B,⟨a,m,o i a q,o j m I,y⟩,λe=>M (qj _ e),λe=>N (qj _ e)⟩
 ·rcases p.known i a (o i a q) D with h|h
  ·exact p8 (h.app _)
  ·exact n9 (p8 h)
 ·rcases p.known i a (o i a q) D with h|h
  ·exact p8 ⟨t.size+1,_,v,iP,n9 ((h.hb_new (aB _) b iP).trans n)⟩
  ·exact n9 (p8 h)
end
open Go.ConcX.Gen Go.RowKit Go.Conc.Lib
def Eh.c0{I a b}(h:Eh I a w b sm):w.cell? (Hp a)=ni (pq .u64 b):=by
 unfold Eh at h;simp[World.cell?,Hp,JU,h]
def E3.cell0{I a}(h:E3 I a w):∃v,w.cell? (iJ a)=ni v:=let⟨b,sm,x⟩:=h;⟨_,x.c0⟩
variable {C:KG}
def Re(L:ru):Code:=(addFn L).body.getD .skip
def KW(L:ru):Code:=(doneFn L).body.getD .skip
end Go.Pair
namespace Go.Pair
variable {D:O->O->Array Event->Prop}{K:Nat->Obj->Prop}{X:Array Event}{cs:List Frame}
open Go Go.Conc Go.ConcX.Gen Go.RowKit Go.Conc.Lib
variable {C:KG}
def Av{I b}(h:E3 I q w)(r:RG I q w b):=r h
def E3.cell1{I a}(h:E3 I a w):∃v,w.cell? (iK a 1)=ni v:=by
 have ⟨b,sm,x⟩:=h;unfold Eh at x;exact⟨pq .u32 sm,by simp[World.cell?,JU,x]⟩
def Zf(L:ru):Code:=(waitFn L).body.getD .skip
def Apn(H:WgLib C.P L)(v:C.ty=L.30){b₀:Frame}{a₀}{ops₀}{i₀}{rest₀:iG}{k₀}{cs}(w)(p:E3 C.ty C.Wg w)(m:∀R K,R.status=.running->(∃n,y C.P tu z D0 (λg _=>g=G (b₀.at (a₀.put ((ops₀[i₀]?).bind (·.dst)) (my #[])) (.inRegion ops₀ rest₀::k₀)) cs) n R K)->C.11 R K):y C.P tu (RG C.ty C.Wg) D0 (AKd C) 100 (G ((base L.wait).at ⟨#[iI C.Wg]++Array.replicate ((waitFn L).7 - 1) undef,[]⟩ [.code (Zf L)]) (b₀.at a₀ (.inRegion ops₀ (i₀::rest₀)::k₀)::cs)) w:=by
 lib_facts
 simp only[Zf,waitFn,bJ,Nat.reduceSub,dF,dQ,eN,dZ,bR,cJ];have e:∀{w} {st sm},Eh C.ty C.Wg w st sm->w.cell? (iJ C.Wg)=ni (pq .u64 st)/\w.frozen? (iJ C.Wg)=o9/\w.cell? (iK C.Wg 1)=ni (pq .u32 sm)/\w.frozen? (iK C.Wg 1)=o9:=λh=>by
  exact G9z
 u_c Z Av p
 u_cond tu Av p
 u_reg Av p
 refine mh (λK U=>?_);replace p:=Av p U;clear U;refine⟨iP,_,stepG_mark0 .disable Ad iP iP (by k_ne) iP H.5 (x_disable_n L) (x_disable_b L) (x_disable_x L) (x_disable_f L),100,?_⟩;walk_nrm
 u_c x Av p
 u_c stepG_block Av p
 u_c stepG_loop Av p
 u_c stepG_block Av p
 u_c Z Av p
 u_reg Av p
 u_op Av p
 u_op Av p
 u_op Av p
 u_call H.13 (nm_uLoad L) uLoadFn Av p
 u_c Z Av p
 u_reg Av p
 u_op Av p
 u_c x Av p
 u_c Z Av p
 u_reg Av p
 u_op Av p
 u_op Av p
 u_op Av p
 refine mh (λK U=>?_);replace p:=Av p U;clear U;refine⟨iP,λW=>?_,λW=>?_⟩
 ·refine⟨_,stepG_load_atomic iP iP (by k_ne) iP H.24 (x_loadU64_n L) (x_loadU64_b L) (x_loadU64_x L) .u64 (x_loadU64_f L) iP (e W).1,200,?_⟩;clear W;walk_nrm
  u_op Av p
  u_c x Av p
  u_c o0 Av p
  u_leave1 H.13 Av p
  u_op Av p
  u_c x Av p
  u_c Z Av p
  u_reg Av p
  u_op Av p
  u_op Av p
  u_op Av p
  u_op Av p
  u_c x Av p
  u_c Z Av p
  u_reg Av p
  u_op Av p
  u_op Av p
  u_op Av p
  u_op Av p
  u_c x Av p
  u_c Z Av p
  u_c Z Av p
  u_reg Av p
  u_op Av p
  u_op Av p
  u_c x Av p
  u_cond o9 Av p
  u_c kq Av p
  u_c Z Av p
  u_reg Av p
  u_op Av p
  u_op Av p
  u_op Av p
  u_op Av p
  u_op Av p
  u_op Av p
  u_call H.19 (nm_uCas L) uCasFn Av p
  u_c Z Av p
  u_reg Av p
  u_op Av p
  u_c x Av p
  u_c Z Av p
  u_reg Av p
  u_op Av p
  u_op Av p
  u_op Av p
  u_op Av p
  u_op Av p
  refine mh (λj D=>?_);replace p:=Av p D;clear D;refine⟨iP,λW=>?_,λW=>?_⟩
  ·refine⟨_,stepG_cas_hit iP iP (by k_ne) iP H.26 (x_casU64_n L) (x_casU64_b L) (x_casU64_x L) .u64 (x_casU64_f L) iP iP iP (e W).1 (e W).2.1,200,?_⟩;replace p:=(⟨_,_,Lo W (KK+1)⟩:E3 _ _ _);clear W;walk_nrm
   u_op Av p
   u_c x Av p
   u_c o0 Av p
   u_leave1 H.19 Av p
   u_c x Av p
   u_cond tu Av p
   u_c Z Av p
   u_c Z Av p
   u_reg Av p
   u_op Av p
   u_op Av p
   u_op Av p
   u_op Av p
   u_c x Av p
   u_cond tu Av p
   u_reg Av p
   u_op Av p
   u_op Av p
   u_op Av p
   u_in Av p
   refine goes_oper_k iP iP (by k_ne) (λN M=>?_);have E:=run_convert_to_unsafe (P:=C.P) H.67 H.32 H.113 (E3.cell1 p).choose_spec;have J:=λX=>je (P:=C.P) H.67 H.32 H.113 (E3.cell1 p).choose_spec X;go_simp;refine M _ _ ⟨?_,?_⟩
   ·exact Qr8
   clear M N E J;refine mh (λi T=>?_);replace p:=Av p T;clear T;refine⟨iP,_,stepG_markAt .write Ad iP iP (by k_ne) iP H.20 (x_raceWrite_n L) (x_raceWrite_b L) (x_raceWrite_x L) (x_raceWrite_f L) Af5,200,?_⟩;walk_nrm
   u_c x Av p
   u_c Z Av p
   u_reg Av p
   u_op Av p
   u_c x Av p
   u_c Z Av p
   u_c Z Av p
   u_reg Av p
   u_op Av p
   u_op Av p
   u_op Av p
   u_op Av p
   u_skip Av p
   u_op Av p
   u_c x Av p
   u_cond o9 Av p
   u_c kq Av p
   u_c Z Av p
   u_reg Av p
   u_op Av p
   u_op Av p
   u_op Av p
   u_op Av p
   refine mh (λk a=>?_);replace p:=Av p a;clear a;refine⟨iP,iP,fun⟨st,W⟩=>?_,λW=>?_⟩
   ·exact stepG_semacquire_wait iP iP iP H.21 (x_semacquire_n L) (x_semacquire_b L) (x_semacquire_x L) (x_semacquire_f L) (by simp[Act.eval]) (e W).2.2.1
   ·refine⟨_,stepG_semacquire iP iP (by k_ne) iP H.21 (x_semacquire_n L) (x_semacquire_b L) (x_semacquire_x L) (x_semacquire_f L) Af5 (e W).2.2.1 Ae (e W).2.2.2,200,?_⟩;replace p:=(⟨_,_,JV W 0⟩:E3 _ _ _);clear W;walk_nrm
    u_c x Av p
    u_c Z Av p
    u_reg Av p
    u_op Av p
    u_op Av p
    u_op Av p
    u_call H.13 (nm_uLoad L) uLoadFn Av p
    u_c Z Av p
    u_reg Av p
    u_op Av p
    u_c x Av p
    u_c Z Av p
    u_reg Av p
    u_op Av p
    u_op Av p
    u_op Av p
    refine mh (λl c=>?_);replace p:=Av p c;clear c;refine⟨iP,λW=>?_⟩;refine⟨_,stepG_load_atomic iP iP (by k_ne) iP H.24 (x_loadU64_n L) (x_loadU64_b L) (x_loadU64_x L) .u64 (x_loadU64_f L) iP (e W).1,200,?_⟩;clear W;walk_nrm
    u_op Av p
    u_c x Av p
    u_c o0 Av p
    u_leave1 H.13 Av p
    u_op Av p
    u_op Av p
    u_c x Av p
    u_c Z Av p
    u_cond tu Av p
    u_c Z Av p
    u_reg Av p
    refine mh (λd B=>?_);replace p:=Av p B;clear B;refine⟨iP,_,stepG_mark0 .enable Ad iP iP (by k_ne) iP H.6 (x_enable_n L) (x_enable_b L) (x_enable_x L) (x_enable_f L),50,?_⟩;walk_nrm
    u_c x Av p
    u_reg Av p
    u_op Av p
    u_in Av p
    refine goes_oper_k iP iP (by k_ne) (λN M=>?_);refine U6p λE J=>?_;refine M _ _ ⟨?_,?_⟩
    ·exact Qr8
    clear M N E J;refine mh (λf F=>?_);replace p:=Av p F;clear F;refine⟨iP,_,stepG_markAt .acquire Ad iP iP (by k_ne) iP H.17 (x_acquire_n L) (x_acquire_b L) (x_acquire_x L) (x_acquire_f L) Af6,iP,m _ _ iP ⟨60,?_⟩⟩;walk_nrm;have S:True:=trivial;clear p
    u_c x (fun(h:True) (_:z _ _)=>h) S
    u_c Z (fun(h:True) (_:z _ _)=>h) S
    u_c Z (fun(h:True) (_:z _ _)=>h) S
    u_reg (fun(h:True) (_:z _ _)=>h) S
    u_op (fun(h:True) (_:z _ _)=>h) S
    u_c x (fun(h:True) (_:z _ _)=>h) S
    u_cond o9 (fun(h:True) (_:z _ _)=>h) S
    u_c kq (fun(h:True) (_:z _ _)=>h) S
    u_c o0 (fun(h:True) (_:z _ _)=>h) S
    u_leave0 H.3 (fun(h:True) (_:z _ _)=>h) S
    exact mh (λ_ _=>rfl)
  ·refine⟨_,stepG_cas_miss iP iP (by k_ne) iP H.26 (x_casU64_n L) (x_casU64_b L) (x_casU64_x L) .u64 (x_casU64_f L) iP iP iP (e W).1 (e W).2.1 Ae,200,?_⟩;clear W;walk_nrm
   u_op Av p
   u_c x Av p
   u_c o0 Av p
   u_leave1 H.19 Av p
   u_c x Av p
   u_cond o9 Av p
   u_c kq Av p
   u_c stepG_inBlock Av p
   u_c stepG_inLoop Av p
   u_c stepG_block Av p
   u_c Z Av p
   u_reg Av p
   u_op Av p
   u_op Av p
   u_op Av p
   u_call H.13 (nm_uLoad L) uLoadFn Av p
   u_c Z Av p
   u_reg Av p
   u_op Av p
   u_c x Av p
   u_c Z Av p
   u_reg Av p
   u_op Av p
   u_op Av p
   u_op Av p
   refine mh (λi T=>?_);replace p:=Av p T;clear T;refine⟨iP,λW=>?_⟩;exact Yxq
 ·exact Yxq
end Go.Pair
namespace Go.Pair
variable {D:O->O->Array Event->Prop}{K:Nat->Obj->Prop}{X:Array Event}{cs:List Frame}{o:Obj}
open Go Go.Conc Go.ConcX.Gen Go.RowKit Go.Conc.Lib
section
variable {P:vg}
variable (P) (b:Nat) (I:mi) (a:T)
def PEn(g:T)(w:O):Prop:=g.status=.running/\∃g',E P tu g w=.go g' w #[Uf .enable]/\∃n,y P tu z D0 (λg _=>g=a) n g' w
def PRd(g:T)(w:O):Prop:=g.status=.running/\∃g',E P tu g w=.go g' w #[Uf (.read (KD b))]/\∃n,y P tu z D0 (PEn P a) n g' w
def PAd(g:T)(w:O):Prop:=g.status=.running/\∃g',E P tu g w=.go g' (w.setCell (Hp b) (pq .u64 KK)) #[JZ (Hp b),wrE (Hp b)]/\∃n,y P tu z D0 (PRd P b a) n g' (w.setCell (Hp b) (pq .u64 KK))
def PDi(g:T)(w:O):Prop:=g.status=.running/\∃g',E P tu g w=.go g' w #[Uf .disable]/\∃n,y P tu z D0 (PAd P b a) n g' w
end
def A6{I b c a}(h:Eh I b w c sm)(r:z w a):Eh I b a c sm:=by
 obtain⟨d,rfl⟩:=r;exact h
def Aj2{P}(H:WgLib P L){d}{g:Frame}{f a j}{c:iG}{k cs}(w)(hF:Eh L.30 d w 0 0):y P tu z D0 (PDi P d (G (g.at (f.put ((a[j]?).bind (·.dst)) (my #[])) (.inRegion a c::k)) cs)) 100 (G ((base L.add).at ⟨#[iI d,iL 1]++Array.replicate 115 undef,[]⟩ [.code (Re L)]) (g.at f (.inRegion a (j::c)::k)::cs)) w:=by
 lib_facts
 simp only[Re,addFn,bJ,dF,dQ,eN,dZ,bR,cJ];have e:∀{w} {u sm},Eh L.30 d w u sm->w.cell? (iJ d)=ni (pq .u64 u)/\w.frozen? (iJ d)=o9/\w.cell? (iK d 1)=ni (pq .u32 sm)/\w.frozen? (iK d 1)=o9:=λh=>by
  exact G9z
 u_c Z A6 hF
 u_cond tu A6 hF
 u_c Z A6 hF
 u_c Z A6 hF
 u_reg A6 hF
 u_op A6 hF
 u_op A6 hF
 u_c x A6 hF
 u_cond o9 A6 hF
 u_c kq A6 hF
 u_c Z A6 hF
 u_reg A6 hF
 refine mh (λl U=>?_);replace hF:=A6 hF U;clear U;refine⟨iP,_,stepG_mark0 .disable Ad iP iP (by k_ne) iP H.5 (x_disable_n L) (x_disable_b L) (x_disable_x L) (x_disable_f L),100,?_⟩;walk_nrm
 u_c x A6 hF
 u_reg A6 hF
 u_defer A6 hF
 u_c x A6 hF
 u_c Z A6 hF
 u_reg A6 hF
 u_op A6 hF
 u_c x A6 hF
 u_c Z A6 hF
 u_c Z A6 hF
 u_reg A6 hF
 u_bub A6 hF
 u_c x A6 hF
 u_cond o9 A6 hF
 u_c kq A6 hF
 u_c Z A6 hF
 u_reg A6 hF
 u_op A6 hF
 u_op A6 hF
 u_op A6 hF
 u_op A6 hF
 u_op A6 hF
 u_op A6 hF
 u_call H.11 (nm_uAdd L) uAddFn A6 hF
 u_c Z A6 hF
 u_reg A6 hF
 u_op A6 hF
 u_c x A6 hF
 u_c Z A6 hF
 u_reg A6 hF
 u_op A6 hF
 u_op A6 hF
 u_op A6 hF
 u_op A6 hF
 refine mh (λl U=>?_);replace hF:=A6 hF U;clear U;have F:IntKind.u64.wrap (0+4294967296)=KK:=Ae;refine⟨iP,_,(stepG_add_atomic iP iP (by k_ne) iP H.23 (x_addU64_n L) (x_addU64_b L) (x_addU64_x L) .u64 (x_addU64_f L) iP iP (e hF).1 (e hF).2.1).trans (by rw[F];rfl),200,?_⟩;replace hF:Eh L.30 d (l.setCell (Hp d) (pq .u64 KK)) KK 0:=Lo hF KK;unfold KK at hF⊢;walk_nrm
 u_op A6 hF
 u_c x A6 hF
 u_c o0 A6 hF
 u_leave1 H.11 A6 hF
 u_op A6 hF
 u_c x A6 hF
 u_c Z A6 hF
 u_c Z A6 hF
 u_reg A6 hF
 u_op A6 hF
 u_op A6 hF
 u_op A6 hF
 u_op A6 hF
 u_skip A6 hF
 u_skip A6 hF
 u_op A6 hF
 u_c x A6 hF
 u_cond o9 A6 hF
 u_c kq A6 hF
 u_c Z A6 hF
 u_reg A6 hF
 u_op A6 hF
 u_op A6 hF
 u_op A6 hF
 u_op A6 hF
 u_c x A6 hF
 u_c Z A6 hF
 u_reg A6 hF
 u_op A6 hF
 u_op A6 hF
 u_op A6 hF
 u_op A6 hF
 u_c x A6 hF
 u_c Z A6 hF
 u_c Z A6 hF
 u_reg A6 hF
 u_op A6 hF
 u_op A6 hF
 u_op A6 hF
 u_op A6 hF
 u_op A6 hF
 u_op A6 hF
 u_op A6 hF
 u_op A6 hF
 u_op A6 hF
 u_op A6 hF
 u_c x A6 hF
 u_cond tu A6 hF
 u_reg A6 hF
 u_op A6 hF
 u_op A6 hF
 u_op A6 hF
 u_in A6 hF
 refine goes_oper_k iP iP (by k_ne) (λN M=>?_);have E:=run_convert_to_unsafe (P:=P) H.67 H.32 H.113 (e hF).2.2.1;have n:=λX=>je (P:=P) H.67 H.32 H.113 (e hF).2.2.1 X;go_simp;refine M _ _ ⟨?_,?_⟩
 ·u_none
  intro Y r;have s:=mem_listed r;simp[go_sem,n]at s
 clear M N E n;refine mh (λv i=>?_);replace hF:=A6 hF i;clear i;refine⟨iP,_,stepG_markAt .read Ad iP iP (by k_ne) iP H.12 (x_raceRead_n L) (x_raceRead_b L) (x_raceRead_x L) (x_raceRead_f L) Af5,100,?_⟩;walk_nrm
 u_c x A6 hF
 u_c Z A6 hF
 u_c Z A6 hF
 u_reg A6 hF
 u_op A6 hF
 u_op A6 hF
 u_c x A6 hF
 u_cond o9 A6 hF
 u_c kq A6 hF
 u_c Z A6 hF
 u_c Z A6 hF
 u_reg A6 hF
 u_op A6 hF
 u_op A6 hF
 u_op A6 hF
 u_skip A6 hF
 u_skip A6 hF
 u_op A6 hF
 u_op A6 hF
 u_skip A6 hF
 u_skip A6 hF
 u_skip A6 hF
 u_skip A6 hF
 u_op A6 hF
 u_c x A6 hF
 u_cond o9 A6 hF
 u_c kq A6 hF
 u_c Z A6 hF
 u_c Z A6 hF
 u_reg A6 hF
 u_op A6 hF
 u_op A6 hF
 u_op A6 hF
 u_skip A6 hF
 u_skip A6 hF
 u_op A6 hF
 u_c x A6 hF
 u_cond tu A6 hF
 u_c o0 A6 hF
 refine mh (λb o=>?_);refine⟨iP,_,stepG_unwind_entry (v:=my #[]) (evs:=#[Uf .enable]) iP H.6 (x_enable_n L) (x_enable_b L) (x_enable_x L) (x_enable_f L) (by simp[Extern.Race.none_]) (by simp[Uf]) (λx t=>by simp at t;subst t;simp[Uf]),20,?_⟩;have S:True:=trivial;clear hF o
 u_leave0 H.1 (fun(h:True) (_:z _ _)=>h) S
 exact mh (λ_ _=>rfl)
def Ends.goesA{P p d}{b:T->O->Prop}{a}(f:∀g w,qu a w->(∀e,qu w e->b g e)->Ends P Y p d g w):∀{n} {g} {w},qu a w->y P tu qu D0 b n g w->Ends P Y p d g w
 |0,g,w,c,h=>f g w c h
 |n+1,g,w,c,h=>by
  rcases h with h|⟨j,h⟩
  ·exact f g w c h
  ·refine Ends.step j λk=>?_;have:=h _ ⟨k,iP⟩;obtain⟨R,B,X,i,⟨rfl,rfl⟩,l⟩:=goes_elim this;exact⟨R,w.at k,#[],i,aB _,Ad,Ends.goesA f (atRel_trans _ _ _ c ⟨k,iP⟩) l⟩
section
variable {P:vg} {p:hZ} {Wg:Nat} {Ret:T}
def LN{m}(h:(MemAct.mark m).touch? = su)(c:(MemAct.mark m).low B):EvD p B (Uf m):=⟨(λx b=>by rw[Nk,h]at b;cases b),c⟩
def Acd{a wr}(h:a.block<B):EvD p B ⟨.cell a,wr,tu⟩:=⟨λx b _=>by
 simp only[Ml,MemAct.touch?,aW]at b;subst b;simp,h⟩
def Ag7(i:∀B,z w B->Ends P Y p 0 Ret B)(a:∀e,z w e->PEn P Ret h e):Ends P Y p 1 h w:=by
 refine Ends.step (a w (lf w)).1 λn=>?_;have ⟨_,R,j,m,f⟩:=a _ ⟨n,iP⟩;refine⟨R,w.at n,_,j,aB _,λg c=>?_,(Ends.goesA (λh B d b=>by rw[b B (lf B)];exact i B d) ⟨n,iP⟩ f)⟩
 ·simp at c;subst c;exact LN iP trivial
def Ag8(o:Wg<iS w.1)(l:∀B,z w B->Ends P Y p 0 Ret B)(a:∀e,z w e->PRd P Wg Ret h e):Ends P Y p 1 h w:=by
 refine Ends.step (a w (lf w)).1 λn=>?_;have ⟨_,R,j,m,f⟩:=a _ ⟨n,iP⟩;refine⟨R,w.at n,_,j,aB _,λg c=>?_,(Ends.goesA (λh B d b=>Ag7 (λk q=>l k (atRel_trans _ _ _ d q)) b) ⟨n,iP⟩ f)⟩
 ·simp at c;subst c;refine⟨λx i _=>?_,o⟩;simp only[Nk,MemAct.touch?,aW]at i;subst i;simp
def Aca(i:Wg<iS w.1)(o:∀B,z (w.setCell (Hp Wg) (pq .u64 KK)) B->Ends P Y p 0 Ret B){n}(e:y P tu z D0 (PDi P Wg Ret) n h w):Ends P Y p 0 h w:=by
 refine Ends.goesA (a:=w) (λh B b a=>?_) (lf w) e;obtain⟨l,rfl⟩:=b;refine Ends.step (a _ (lf _)).1 λn=>?_;obtain⟨_,R,j,m,f⟩:=a _ ⟨n,iP⟩;refine⟨R,_,_,j,aB _,λg c=>?_,?_⟩
 ·simp at c;subst c;exact LN iP trivial
 ·refine Ends.goesA (a:=w) (d:=1) (λh B b a=>?_) ⟨n,iP⟩ f;obtain⟨q,rfl⟩:=b;refine Ends.step (a _ (lf _)).1 λn=>?_;obtain⟨_,R,j,m,f⟩:=a _ ⟨n,iP⟩;refine⟨R,_,_,j,by rw[Qz];exact aB _,λg c=>?_,?_⟩
  ·simp at c;rcases c with rfl|rfl
   ·exact Acd (by rwa[Qz])
   ·exact Acd (by rwa[Qz])
  ·refine Ends.goesA (a:=w.setCell (Hp Wg) (pq .u64 KK)) (d:=1) (λh B b a=>?_) ⟨n,iP⟩ f;refine Ag8 (w:=B) ?_ (λk d=>o k (atRel_trans _ _ _ b d)) a;obtain⟨r,rfl⟩:=b
   show Wg<(w.setCell _ _).1.size
   rwa[Qz]
end
def EA(P:vg)(Post:iH)(Shun:hZ)(g:T)(w:O):Prop:=∀d,Ends P (λv w'=>CH w w'/\Post v w') Shun 0 g (w.at d)
section
variable {P:vg} {p:hZ}
def EA.ends(a:EA P Y p h e):Ends P (λv d=>CH e d/\Y v d) p 0 h e:=a e.drawn
end
def EA.run{P}(h:EA P Y iO g w):∃N a o B c,runNT P (N+1) (solo g w) #[]=(.ended o B,c)/\runN P N (solo g w)=.next a/\step P a=.ended o B/\Conc.Good P (λv B=>CH w B/\Y v B) a o B c:=by
 refine h.ends #[g] su #[] (λ_=>0) iP ⟨λi x d e=>?_,λj _=>rfl⟩ ((Kp.of past_nil).mono (bE _))
 grind
section
variable {H:Type} {P:mi×w8->H}
end
def O0{p s c}(f u)(q:c.program=p.name/\c.sum=p.sum/\c.spec=s.name)(r:c.start=.entering/\c.outside = []/\c.inits = []/\c.under=su/\c.28=o9/\c.followed=su/\c.still=o9)(C:c.23 = []/\c.24=o9/\c.25=o9/\c.26 = []/\c.27 = [])(k:c.leaving=tu)(t:c.narrowed=s.cond.isSome)(B:p.checked.prog.funcNamed c.func=ni f)(I:p.checked.prog.funcs[f]?=ni u)(d:joinedFacts p.checked.prog f u s.bare c=tu)(m:u.isInstance p.checked.prog c.origin c.targs)(o:u.isWrapper p.checked.prog c.wrapper c.8)(v:∀g:Os,g.Started->∀H(P:mi×w8->H),∀F:Stop.Interp,ReturnsInLeavingWide c.assume p.checked g f .any (c.pre P p.checked.prog u s) ((s.at F).post P p.checked.prog u c.apart c.fresh c.handsOn c.again)):c.holds p s:=by
 obtain⟨z,x,y⟩:=q;obtain⟨a,e,D,J,h,l,G⟩:=r;simp only[joinedFacts,aS,beq_iff_eq,cX,cR,decide_eq_true_eq]at d;obtain⟨⟨⟨⟨⟨⟨⟨⟨⟨⟨⟨⟨⟨⟨⟨⟨⟨⟨⟨⟨⟨⟨⟨⟨⟨⟨⟨⟨⟨⟨⟨K,L⟩,N⟩,W⟩,k5⟩,i⟩,M⟩,O⟩,b⟩,Q⟩,R⟩,S⟩,T⟩,U⟩,X⟩,Y⟩,Z⟩,a1⟩,a6⟩,a7⟩,a8⟩,V⟩,aa⟩,w⟩,ab⟩,ad⟩,ae⟩,A⟩,af⟩,ah⟩,ai⟩,aj⟩:=d;have hq:∀g:Os,Stop.quiet p.checked.prog g:=λg an E=>by rw[b]at E;cases E
 have ak:c.33.isSome=o9:=by
  cases hx:c.33 with
  |none=>rfl
  |some _=>rw[hx]at w;cases w
 have j:∀g,c.world g=g.Started:=λg=>by unfold OpenClaim.world;rw[e,a]
 refine⟨K,z,x,y,L,N,?_,?_,f,u,B,I,⟨W,a7⟩,λhb=>absurd (h.symm.trans hb) Ae,?_,m,o,i.trans M.symm,⟨O.trans b.symm,?_,ab⟩,Q,R,S,T,U,⟨X,ai,aj⟩,⟨Y,a8⟩,⟨Z,V,af,ah⟩,⟨aa,ae,A,a1⟩,?_,λn al=>varReadable_some (a6 n al),⟨_,(j _).symm▸WideRow.started_initial,hq _⟩,[],?_,λg st _ H P _=>?_⟩
 ·unfold OpenClaim.startFits;rwa[a]
 ·unfold OpenClaim.startTold;rw[a];exact⟨D,J,C⟩
 ·unfold OpenClaim.namedList;rwa[l]
 ·unfold Program.envWorded;rw[b];rfl
 ·rw[e,t,ak];simp
 ·unfold OpenClaim.lists;rw[l]
 rw[j]at st;rw[OpenClaim.post_not_still G];unfold OpenClaim.form;rw[a,i];intro F;have e1:c.okInput=Input.okWide:=by unfold OpenClaim.okInput;rw[h]
 have e2:c.atReturn p.checked.prog=leavingAtReturn p.checked.prog:=by unfold OpenClaim.atReturn;rw[k]
 have e3:c.always p.checked.prog []=nothingAlways:=by unfold OpenClaim.always;rw[l]
 have e4:s.post P p.checked.prog u F c.outside c.apart c.fresh c.handsOn c.again=(s.at F).post P p.checked.prog u c.apart c.fresh c.handsOn c.again:=by rw[e];rfl
 rw[e1,e2,e3]
 show ReturnsInOpen _ _ _ _ _ _ _ _ (s.post P p.checked.prog u F c.outside c.apart c.fresh c.handsOn c.again) _ _;rw[e4];exact v g st H P F ad

import Derived.Test.YtnepogbkiocdhaaGreatDoorBase
import Derived.Conc.CrowdComm
import Derived.Conc.CrowdCom2
import Derived.Conc.FxGenAddNeg
import Derived.Conc.CompanyMem
import Derived.Conc.Holds
import Derived.JoinedCond
set_option maxHeartbeats 4000000
set_option maxRecDepth 100000
set_option linter.all false
open Go renaming World->qi,Goroutine->gy,Value->p8,TypeId->uy,Program->jd,Trace->zq,stepG->ui,Addr->uw,deafBehind->xp,FuncId->mf,HappensBefore->jj,mayWake->ky,partners->iw,World->Z,Value->O,Goroutine->E,stepG->F
open Option renaming some->je,none->zt
open Go.Conc renaming stepG_region_end->zg,stepG_seq->mj,mem_ofEvents->xy,AtRel->z8,Deaf_other->qw,Goes->gz,offersAt_of_not_blocked->yy,stepG_skip->ju,touch_of->vj,atRel_refl->lz,touchAt->um,Deaf->kj,woken->od,stepG_ret'->mo,served->kt,runT_crowd_go->vw,hb_app->q9,noRace_append->jk,woken_quitsD->rz,events_convert_to_unsafe->we,crowd->xj,parked->yn,rcase->uj,seen_app->ud,deaf_old->zm,Deaf_own->xr,heard_old->gl,Goes->W
open Bool renaming true->jz,false->vy
open Go.Trace renaming g?->xd
open Go.Conc.Goes renaming stop->uo
open Go.World renaming setCell->zo,cell?->yg
open Go.Builtin renaming zeroCells->zc,append_->tv,copy_->pj,firstCells->yr,mayShare->qk
open Array renaming range->fy,map->sx,mapM_eq_mapM_toList->pd,size_push->sd,map_congr_left->yx,size->iZ
open Go.Conc.Lib renaming WgLink->xq
open Go.Instr renaming extract->su,sliceBounds->oe,fill->yk
open Go.Value renaming int->wy,pointer->vp,bool->o0,tuple->gq,agg->mn
open Go.Obj renaming cells->pf
open Or renaming inl->zk,inr->qx
open Go renaming iW->T
open Go
variable {B e f i j q r:Nat}{H:iG}{L:xq}{R g m:gy}{U h v w w':Z}{Y:iP}{c d:Type}{sm:Int}{t u:zq}{x:O}{z:iJ}{pp:Prop}
def V9z(h:pp:=by
 rwa[aE Aa]at Z):=h
def Xx1(h:pp:=by
 rwa[aE Aa,aE Aa]at Z):=h
def Ntf(h:pp:=by
 subst u;rw[aT (by simpa using R)]at Z;obtain rfl:=aC Z
 rwa[upd_same,Deaf_own]):=h
def Bp5(h:pp:=by
 rw[aE Aa,aM]at Z;obtain⟨E,U,rfl⟩:=bA.1 Z
 rwa[woken_quitsD (H.old j E l n U)]):=h
def Sek(h:pp:=by
 rcases getElem?_stand r 0 j x Z with⟨_,rfl⟩|⟨l,v⟩
 ·exact offersAt_ph _ _
 ·by_cases n:j=k
  ·subst n;rw[D]at v;obtain rfl:=aC v;exact offersAt_of_not_blocked aw _ _
  ·exact offersAt_of_not_blocked (H.notBlocked Aa n v) _ _):=h
def Riq(h:pp:=by
 simp only[Ob,MemAct.touch?,aU]at Z;subst Z;exact .inr (.inl ⟨⟨_,iW,iW⟩,Ae⟩)):=h
def I6b(h:pp:=by
 cases tb<;>simp[Ki]at i<;>(obtain⟨rfl,rfl⟩:=i;simp[Ki])):=h
def Hw9(h:pp:=by
 simp at b;rcases b with rfl|rfl
 ·exact .inl ⟨_,_,iW,iW⟩
 ·exact .inl ⟨_,_,iW,iW⟩):=h
def Vks(h:pp:=by
 simp[semEvents]at b;rcases b with rfl|rfl|rfl|rfl
 ·exact .inr (.inl iW)
 ·exact .inl ⟨_,_,iW,iW⟩
 ·exact .inl ⟨_,_,iW,iW⟩
 ·exact .inr (.inr (.inl iW))):=h
def Gw0(h:pp:=by
 cases U<;>simp[Ki]at i<;>(obtain⟨rfl,rfl⟩:=i;simp[Ki])):=h
def X4y(h:pp:=by
 obtain⟨g,N,rfl⟩:=Conc.mem_ofEvents G;rw[touch_mute (o g N)]at Z;cases Z):=h
def Yx3{p q:Prop}(k:q)(h:Hd q->p:=by
 intro kz;have E:=run_convert_to_unsafe (P:=C.P) H.27 H.32 H.112 (Fi.cell0 p).choose_spec;have J:=λX=>events_convert_to_unsafe (P:=C.P) H.27 H.32 H.112 (Fi.cell0 p).choose_spec X;go_simp;revert E J;exact kz.1):p:=h ⟨k⟩
def O90(h:pp:=by
 unfold Ev at h;simp[World.cell?,World.frozen?,NF,h]):=h
def Qr8(h:pp:=by
 u_none
 intro Y Q;have b:=mem_listed Q;simp[go_sem,J]at b):=h
def Fsy(h:pp:=by
 refine⟨_,stepG_load_atomic iW iW (by k_ne) iW H.24 (x_loadU64_n L) (x_loadU64_b L) (x_loadU64_x L) .u64 (x_loadU64_f L) iW (e W).1,200,?_⟩;clear W;walk_nrm
 u_op Aw p
 u_c stepG_region_end Aw p
 u_c stepG_ret' Aw p
 u_leave1 H.13 Aw p
 u_op Aw p
 u_c stepG_region_end Aw p
 u_c stepG_seq Aw p
 u_reg Aw p
 u_op Aw p
 u_op Aw p
 u_op Aw p
 u_op Aw p
 u_c stepG_region_end Aw p
 u_c stepG_seq Aw p
 u_reg Aw p
 u_op Aw p
 u_op Aw p
 u_op Aw p
 u_op Aw p
 u_c stepG_region_end Aw p
 u_c stepG_seq Aw p
 u_c stepG_seq Aw p
 u_reg Aw p
 u_op Aw p
 u_op Aw p
 u_c stepG_region_end Aw p
 u_cond true Aw p
 u_c stepG_seq Aw p
 u_cond true Aw p
 u_c stepG_seq Aw p
 u_reg Aw p
 refine Goes.stop (λd B=>?_);replace p:=Aw p B;clear B;refine⟨iW,_,stepG_mark0 .enable Ae iW iW (by k_ne) iW H.6 (x_enable_n L) (x_enable_b L) (x_enable_x L) (x_enable_f L),50,?_⟩;walk_nrm
 u_c stepG_region_end Aw p
 u_reg Aw p
 u_op Aw p
 u_in Aw p
 refine goes_oper_k iW iW (by k_ne) (λN M=>?_);have E:=run_convert_to_unsafe (P:=C.P) H.27 H.32 H.112 (Fi.cell0 p).choose_spec;have J:=λX=>events_convert_to_unsafe (P:=C.P) H.27 H.32 H.112 (Fi.cell0 p).choose_spec X;go_simp;refine M _ _ ⟨?_,?_⟩
 ·u_none
  intro Y Q;have b:=mem_listed Q;simp[go_sem,J]at b
 clear M N E J;refine Goes.stop (λf F=>?_);replace p:=Aw p F;clear F;refine⟨iW,_,stepG_markAt .acquire Ae iW iW (by k_ne) iW H.17 (x_acquire_n L) (x_acquire_b L) (x_acquire_x L) (x_acquire_f L) Aiq,iW,m _ _ iW ⟨60,?_⟩⟩;walk_nrm;have S:True:=trivial;clear p
 u_c stepG_region_end (fun(h:True) (_:AtRel _ _)=>h) S
 u_c stepG_seq (fun(h:True) (_:AtRel _ _)=>h) S
 u_c stepG_seq (fun(h:True) (_:AtRel _ _)=>h) S
 u_reg (fun(h:True) (_:AtRel _ _)=>h) S
 u_op (fun(h:True) (_:AtRel _ _)=>h) S
 u_op (fun(h:True) (_:AtRel _ _)=>h) S
 u_op (fun(h:True) (_:AtRel _ _)=>h) S
 u_op (fun(h:True) (_:AtRel _ _)=>h) S
 u_op (fun(h:True) (_:AtRel _ _)=>h) S
 u_op (fun(h:True) (_:AtRel _ _)=>h) S
 u_op (fun(h:True) (_:AtRel _ _)=>h) S
 u_op (fun(h:True) (_:AtRel _ _)=>h) S
 u_skip (fun(h:True) (_:AtRel _ _)=>h) S
 u_skip (fun(h:True) (_:AtRel _ _)=>h) S
 u_op (fun(h:True) (_:AtRel _ _)=>h) S
 u_c stepG_region_end (fun(h:True) (_:AtRel _ _)=>h) S
 u_cond false (fun(h:True) (_:AtRel _ _)=>h) S
 u_c stepG_skip (fun(h:True) (_:AtRel _ _)=>h) S
 u_c stepG_ret' (fun(h:True) (_:AtRel _ _)=>h) S
 u_leave0 H.3 (fun(h:True) (_:AtRel _ _)=>h) S
 exact Goes.stop (λ_ _=>rfl)):=h
def Se9(h:pp:=by
 cases o with
 |cells c e a=>exact absurd iW (z c e a)
 |_=>cases I with
  |cells c e a=>exact absurd iW (j c e a)
  |_=>rfl):=h
def Ndn(h:pp:=by
 cases D:v.1[a.block]? with
 |none=>exact⟨_,iW,trivial⟩
 |some o=>
  have:=h _ _ D;cases o<;>first|exact⟨_,iW,trivial⟩|exact this.elim):=h
def Ilq(h:pp:=by
 cases Instr.fill _ z.cells a.toList with
 |none=>exact Rf.stuck
 |some cs=>exact Rf.pure Ae):=h
def Zsy(h:pp:=by
 rw[S];cases Instr.fill _ _ b.toList with
 |none=>exact Rf.stuck
 |some cs=>exact Rf.bind (Rf.newRow _ _) λ_=>Rf.pure Ae):=h
def Cmg(h:pp:=by
 repeat' split
 all_goals first|exact Rf.bind (Rf.sizeOf _) λ_=>Rf.pure (by simp[Ld])|exact Rf.unsup|exact Rf.bp):=h
def Zj2(h:pp:=by
 refine Rf.bind (Rf.firstCells _ _ _) λh=>?_;cases a with
 |none=>exact Rf.pure Ae
 |some i=>
  simp only[aI,bS];rw[←Ld];exact Rf.bind (Rf.storeCells _ _ _) λ_=>Rf.pure Ae):=h
def Yjf(h:pp:=by
 refine Rf.bind (Rf.typeInfo e) λT=>?_;simp only[id];split
 ·exact Rf.never (Eh (J8 _))
 ·refine Rf.bind (Rf.typeInfo e) λo=>?_;simp only[id];split
  ·exact Rf.never (Eh (Hi (Rp _ _ _ _ _) λ_=>by
    split
    ·exact Hi (Uw _) λ_=>Db iW trivial
    ·exact Db iW trivial))
  ·have b:=Rf.firstCells (P:=P) (n:=n) (H:=H) g l (.slice a l c);rw[Br]at b;exact Rf.bind (Rf.choose _) λp=>Rf.bind (Rf.typeInfo e) λ_=>Rf.bind (Rf.askRoom _) λ_=>Rf.bind b λI=>Rf.bind (Rf.firstCells _ _ _) λh=>Rf.zeroCellsOf N e λz B=>Rf.bind (YL N _ _ _ _ B) λ_=>Rf.pure Ae):=h
namespace Go.Pair
variable {D:Z->Z->Array Event->Prop}{K:Nat->Obj->Prop}{X:Array Event}{cs:List Frame}{o:Obj}{y:iH}
open Go Go.Conc
section
variable {P:jd} {e:Bool} {R:Z->Z->Prop} {f:mf} {g:Array Oper} {Q:Exit->Act->Z->Prop} {M:Region.Mode} {S:iI} {C:Nat}
def FQ{i:Oper}{f args m}{a:Act}{b v}(c:i.op=.call { callee:=.value (.func f),args:=args,argTypes:=m })(h:∀d,b=je d->d∉i.looksAt g):args.map (a.put b v).eval=args.map a.eval:=yx λx k=>Act.eval_put λd j e=>h d j (by subst e;refine fJ _ (List.mem_filterMap.2 ⟨.tmp d,?_,T⟩);simp[c,Op.operands,Call.operands,k])
end
open Go.ConcN (sumTo upd sumTo_upd upd_ne upd_same)
structure Oh(P t)(gs:Array gy)(k)(q:Nat->Nat):Prop where
 old:∀i g,0<i->i≠k->gs[i]?=je g->QuitsD P (q i) (kj t i) g
 above:∀j,gs.size<=j->kj t j=0
def StepA(P:jd)(k:Nat)(a b:E)(w:Z)(t:zq)(K:E->E->Z->zq->Prop):Prop:=
 (∃a' w' es,F P jz a w=.go a' w' es/\K a' (woken P a a' w' b) w' (t++MemOp.ofEvents 0 a.frame.fn a.frame.place es)) ∨
 (∃a₂ c z es s r tm,F P jz a w=.comm a₂ #[uj c z] jz (.recv jz) w es/\w.1[c]?=je (.chan 0 #[] vy s r tm)/\b.status≠.blocked /\
  K (yn a₂ #[uj c z] (.recv jz)) b w (t++MemOp.ofEvents 0 a.frame.fn a.frame.place es)) ∨
 (∃a₂ c z es s r tm b₂ v z',F P jz a w=.comm a₂ #[uj c z] jz (.recv jz) w es/\w.1[c]?=je (.chan 0 #[] vy s r tm)/\b=yn b₂ #[scase c v z'] .send /\
  K (kt a₂ (gq #[v,o0 jz])) (kt b₂ undef) (w.setChan c 0 #[] vy (s+1) (r+1) tm) (t++(MemOp.ofEvents 0 a.frame.fn a.frame.place es ++
   #[{ g:=k,fn:=b₂.frame.fn,pos:=b₂.frame.place,act:=.send c s },{ g:=0,fn:=a₂.frame.fn,pos:=a₂.frame.place,act:=.recv c r 0 },
    {g:=k,fn:=b₂.frame.fn,pos:=b₂.frame.place,act:=.sendDone c s },{ g:=0,fn:=a₂.frame.fn,pos:=a₂.frame.place,act:=.recvDone c r }]))) ∨
 (∃a₂ c z es s r tm,F P jz a w=.comm a₂ #[uj c z] jz (.recv jz) w es/\w.1[c]?=je (.chan 0 #[] jz s r tm)/\b.status≠.blocked /\
  K (kt a₂ (gq #[z,o0 vy])) b w (t++(MemOp.ofEvents 0 a.frame.fn a.frame.place es++#[{ g:=0,fn:=a₂.frame.fn,pos:=a₂.frame.place,act:=.recvClosed c }])))
def StepB(P:jd)(k:Nat)(a b:E)(w:Z)(t:zq)(K:E->E->Z->zq->Prop):Prop:=
 (∃b' w' es,F P vy b w=.go b' w' es/\K (woken P b b' w' a) b' w' (t++MemOp.ofEvents k b.frame.fn b.frame.place es)) ∨
 (∃b₂ c v z es s r tm,F P vy b w=.comm b₂ #[scase c v z] jz .send w es/\w.1[c]?=je (.chan 0 #[] vy s r tm)/\a.status≠.blocked /\
  K a (yn b₂ #[scase c v z] .send) w (t++MemOp.ofEvents k b.frame.fn b.frame.place es)) ∨
 (∃b₂ c v z es s r tm a₂ z',F P vy b w=.comm b₂ #[scase c v z] jz .send w es/\w.1[c]?=je (.chan 0 #[] vy s r tm)/\a=yn a₂ #[uj c z'] (.recv jz) /\
  K (kt a₂ (gq #[v,o0 jz])) (kt b₂ undef) (w.setChan c 0 #[] vy (s+1) (r+1) tm) (t++(MemOp.ofEvents k b.frame.fn b.frame.place es ++
   #[{ g:=k,fn:=b₂.frame.fn,pos:=b₂.frame.place,act:=.send c s },{ g:=0,fn:=a₂.frame.fn,pos:=a₂.frame.place,act:=.recv c r 0 },
    {g:=k,fn:=b₂.frame.fn,pos:=b₂.frame.place,act:=.sendDone c s },{ g:=0,fn:=a₂.frame.fn,pos:=a₂.frame.place,act:=.recvDone c r }])))
section
variable {P:jd} {k:Nat} {r:Array gy} {q:Nat->Nat}
def Oh.notBlocked(h:Oh P t r k q)(b:0<i)(d:i≠k)(c:r[i]?=je g):g.status≠.blocked:=by intro e;obtain x|x:=(h.1 i g b d c).status<;>rw[x]at e<;>cases e
def Oh.app{a}(A:0<k)(h:Oh P t r k q)(B:∀c∈u,c.g=0∨c.g=k)(o:a.size=r.size)(w:k<r.size)(m:∀i g,0<i->i≠k->a[i]?=je g->r[i]?=je g):Oh P (t++u) a k q:=by (have p:∀j≠0,j≠k->kj (t++u) j=kj t j:=by intro j f v;(have y:∀(l:List MemOp),(∀c∈l,c.g=0∨c.g=k)->∀d,l.foldl (deafStep j) d=d:=by intro l;induction l with|nil=>intros;rfl|cons C l z=>intro x d;rw[fR,z (λc n=>x c (by simp[n])),deafStep];grind);have:=Deaf_append t j u.1;simp only[Array.toArray_toList]at this;grind);refine⟨λi g f b s=>?_,λj e=>?_⟩;rw[p i Aa b];exact h.1 i g f b (m i g f b s);rw[o]at e;rw[p j Aa Aa];exact h.2 j e
end
section
variable {P:jd} {k:Nat} {b:Type} {lt:b->b->Prop} {J:b->gy->gy->Z->zq->Prop} {Fin:gy->gy->Z->zq->Prop}
def Cq{g u a b}(h:b∈MemOp.ofEvents g u a X):b.g=g:=by obtain⟨e,_,rfl⟩:=xy h;rfl
def Agm(T:0<k)(wf:WellFounded lt)(b7:∀c m a w t d,J c m a w t->J c m a (w.at d) t)(b8:∀m a w t d,Fin m a (w.at d) t->Fin m a w t)(b9:∀c m a w t i fn pos X,i≠0->i≠k->(∀ba∈X,Event.mute ba=jz)->J c m a w t->J c m a w (t++MemOp.ofEvents i fn pos X))(bb:∀c m a w t g g',J c m a w t->∃p,J p (woken P g g' w m) (woken P g g' w a) w t)(bc:∀c m a w t,J c m a w t->awake m/\awake a/\(m.status=.running∨a.status=.running))(ay:∀c m a w t,J c m a w t->Fin m a w t∨((m.status=.running->StepA P k m a w t λe h B Y=>∃p,lt p c/\J p e h B Y)/\(a.status=.running->StepB P k m a w t λe h B Y=>∃p,lt p c/\J p e h B Y))):∀ak c r m a w sl t (q:Nat->Nat),sumTo r.size q<=ak->r[0]?=je m->r[k]?=je a->Oh P t r k q->J c m a w t ->
   ∃a1 I e h B A Y q',
    runNT P a1 (xj r w sl) t=(.next (xj I B A),Y)/\I.size=r.size/\I[0]?=je e/\I[k]?=je h/\Fin e h B Y/\Oh P Y I k q':=by intro ak;induction ak using Nat.strongRecOn with|_ ak bd=>intro c;induction c using wf.induction with|_ c bf=>intro r m a w sl t q hM F D H hJ;by_cases hF:Fin m a w t;exact⟨0,r,m,a,w,sl,t,q,iW,iW,F,D,hF,H⟩;obtain⟨bw,bx,bg⟩:=bc c m a w t hJ;have ae:0<r.size:=(aJ.1 F).1;have C:k<r.size:=(aJ.1 D).1;(have bh:∀g∈r,awake g:=by intro g G;obtain⟨i,V,rfl⟩:=Array.mem_iff_getElem.1 G;obtain rfl|O:=eJ i;(have:r[0]=m:=by simpa[aN V] using F);rwa[this];by_cases a6:i=k;subst a6;(have:r[i]=a:=by simpa[aN V] using D);rwa[this];exact awake_of ((H.1 i _ O a6 (aN V)).status.elim zk λx=>qx (qx x)));obtain⟨i,g,d,A,V,G,L⟩:=crowd_pick (P:=P) (w:=w) (sl:=sl) bh (by obtain af|af:=bg;exact⟨0,m,F,af⟩;exact⟨k,a,D,af⟩);have ar:=b7 c m a w t d hJ;have az:¬Fin m a (w.at d) t:=λaf=>hF (b8 _ _ _ _ d af);(have a7:∀I(e h:gy)B(ah:zq),stepT P (xj r w sl)=(.next (xj I B A),ah)->I.size=r.size->I[0]?=je e->I[k]?=je h->Oh P (t++ah) I k q->(∃p,lt p c/\J p e h B (t++ah)) ->∃a1 K aa ab ad ai a8 aj,runNT P a1 (xj r w sl) t=(.next (xj K ad ai),a8)/\K.size=r.size/\K[0]?=je aa/\K[k]?=je ab/\Fin aa ab ad a8/\Oh P a8 K k aj:=by intro I e h B ah hs S bj bk bm ⟨p,R,au⟩;obtain⟨a1,K,aa,ab,ad,ai,a8,aj,hr,hz,x0,xb,xF,xO⟩:=bf p R I e h B A (t++ah) q (by rwa[S]) bj bk bm au;exact⟨a1+1,K,aa,ab,ad,ai,a8,aj,by simp[runNT,hs];exact hr,hz.trans S,x0,xb,xF,xO⟩);(have own:∀g',(g'=0∨g'=k)->∀fn pos X,∀op∈MemOp.ofEvents g' fn pos X,op.g=0∨op.g=k:=λg' bz fn pos X op f=>by rwa[Cq f]);obtain rfl|O:=eJ i;(obtain rfl:g=m:=by rw[F]at V;exact(aC V).symm);obtain av|⟨bn,_⟩:=ay c g a (w.at d) t ar;exact absurd av az;obtain⟨e,B,X,hs,y⟩|⟨a₂,z,N,X,s,al,tm,hs,M,aw,y⟩|⟨a₂,z,N,X,s,al,tm,b₂,ao,z',hs,M,rfl,y⟩|⟨a₂,z,N,X,s,al,tm,hs,M,aw,y⟩:=bn G;refine a7 ((r.map (woken P g e B)).setIfInBounds 0 e) e (woken P g e B a) B _ (L.trans (vw (P:=P) (sl:=A) (i:=0) V (show ui P (0==0) g (w.at d)=_ from hs))) Ae (by simp[ae]) ?_ (H.app T (own 0 (zk iW) _ _ _) Ae C λj x l n Z=>?_) y;rw[aE Aa,aM,D];rfl;exact Bp5;(have Q:iw (r.setIfInBounds 0 ph) z jz = []:=partners_nil λj x Z=>by exact Sek);refine a7 (r.setIfInBounds 0 (yn a₂ #[uj z N] (.recv jz))) _ a (w.at d) _ (L.trans (crowd_waits (P:=P) (sl:=A) (i:=0) V (show ui P (0==0) g (w.at d)=_ from hs) λcc ax=>?_)) Ae (by simp[ae]) ?_ (H.app T (own 0 (zk iW) _ _ _) Ae C λj x l n Z=>?_) y;(obtain rfl:cc=uj z N:=by simpa using ax);exact ways_recv_none M Q;rwa[aE Aa];exact V9z;(have Q:iw (r.setIfInBounds 0 ph) z jz = [(k,0)]:=by rw[partners_one (stand_get Aa D) λj x l Z=>?_];simp[offersAt_parked_send];obtain⟨_,rfl⟩|⟨b5,v⟩:=getElem?_stand r 0 j x Z;exact offersAt_ph _ _;exact yy (H.notBlocked Aa l v) _ _);refine a7 _ _ _ _ _ (L.trans (crowd_recv_meets (P:=P) (sl:=A) (i:=0) (j:=k) V (show ui P (0==0) g (w.at d)=_ from hs) M Aa D Q)) Ae (by simp[ae];rfl) ?_ (H.app T ?_ Ae C λj x l n Z=>?_) y;rw[aE Aa,aT C];rfl;intro op f;obtain f|f:=cH.1 f;exact own 0 (zk iW) _ _ _ op f;simp at f;obtain rfl|rfl|rfl|rfl:=f<;>simp;exact Xx1;(have Q:iw (r.setIfInBounds 0 ph) z jz = []:=partners_nil λj x Z=>by exact Sek);refine a7 _ _ a (w.at d) _ (L.trans (crowd_recv_closed (P:=P) (sl:=A) (i:=0) V (show ui P (0==0) g (w.at d)=_ from hs) M Q)) Ae (by simp[ae];rfl) ?_ (H.app T ?_ Ae C λj x l n Z=>?_) y;rwa[aE Aa];intro op f;obtain f|f:=cH.1 f;exact own 0 (zk iW) _ _ _ op f;simp at f;rw[f];simp;exact V9z;by_cases a6:i=k;subst a6;(obtain rfl:g=a:=by rw[D]at V;exact(aC V).symm);have Tz:(i==0)=vy:=Ai;obtain av|⟨_,bo⟩:=ay c m g (w.at d) t ar;exact absurd av az;obtain⟨h,B,X,hs,y⟩|⟨b₂,z,ao,N,X,s,al,tm,hs,M,bq,y⟩|⟨b₂,z,ao,N,X,s,al,tm,a₂,z',hs,M,rfl,y⟩:=bo G;refine a7 ((r.map (woken P g h B)).setIfInBounds i h) (woken P g h B m) h B _ (L.trans (vw (P:=P) (sl:=A) (i:=i) V (by rwa[Tz]))) Ae ?_ (by simp[C]) (H.app T (own i (qx iW) _ _ _) Ae C λj x l n Z=>?_) y;rw[aE Aa,aM,F];rfl;exact Bp5;(have Q:iw (r.setIfInBounds i ph) z vy = []:=partners_nil λj x Z=>by obtain⟨_,rfl⟩|⟨l,v⟩:=getElem?_stand r i j x Z;exact offersAt_ph _ _;obtain rfl|b5:=eJ j;rw[F]at v;obtain rfl:=aC v;exact yy bq _ _;exact yy (H.notBlocked b5 l v) _ _);refine a7 (r.setIfInBounds i (yn b₂ #[scase z ao N] .send)) m _ (w.at d) _ (L.trans (crowd_waits (P:=P) (sl:=A) (i:=i) V (by rwa[Tz]) λcc ax=>?_)) Ae ?_ (by simp[C]) (H.app T (own i (qx iW) _ _ _) Ae C λj x l n Z=>?_) y;(obtain rfl:cc=scase z ao N:=by simpa using ax);exact ways_send_none M Ae Q;rwa[aE Aa];exact V9z;(have Q:iw (r.setIfInBounds i ph) z vy = [(0,0)]:=by rw[partners_one (stand_get Aa F) λj x l Z=>?_];simp[offersAt_parked_recv];obtain⟨_,rfl⟩|⟨u,v⟩:=getElem?_stand r i j x Z;exact offersAt_ph _ _;exact yy (H.notBlocked Aa u v) _ _);refine a7 _ _ _ _ _ (L.trans (crowd_send_meets (P:=P) (sl:=A) (i:=i) (j:=0) V (by rwa[Tz]) M Aa F Q)) Ae ?_ (by simp[C];rfl) (H.app T ?_ Ae C λj x l n Z=>?_) y;rw[aE Aa,aT ae];rfl;intro op f;obtain f|f:=cH.1 f;exact own i (qx iW) _ _ _ op f;simp at f;obtain rfl|rfl|rfl|rfl:=f<;>simp;exact Xx1;have hq:=H.1 i g O a6 V;have Tz:(i==0)=vy:=Ai;have R:i<r.size:=(aJ.1 V).1;cases W:q i with|zero=>rw[W]at hq;rw[hq.1]at G;cases G|succ o=>rw[W]at hq;obtain⟨hf,_⟩|⟨_,g',X,hm,br,c6⟩:=hq;rw[hf]at G;cases G;have bu:=vw (P:=P) (sl:=A) (i:=i) V (Tz▸br (w.at d));have S:((r.map (woken P g g' (w.at d))).setIfInBounds i g').size=r.size:=Ae;(have b6:sumTo r.size (upd q i o)+(o+1)=sumTo r.size q+o:=by have:=sumTo_upd q o id R;simpa[W] using this);obtain⟨p,au⟩:=bb c m a (w.at d) t g g' ar;obtain⟨a1,K,aa,ab,ad,ai,a8,aj,hr,hz,x0,xb,xF,xO⟩:=bd (sumTo r.size (upd q i o)) Aa p ((r.map (woken P g g' (w.at d))).setIfInBounds i g') (woken P g g' (w.at d) m) (woken P g g' (w.at d) a) (w.at d) A (t++MemOp.ofEvents i g.1.1 g.1.place X) (upd q i o) (S▸aA _) (by rw[aE Aa,aM,F];rfl) (by rw[aE a6,aM,D];rfl) ⟨λj x l n Z=>by by_cases u:i=j;exact Ntf;rw[aE u,aM]at Z;obtain⟨E,U,rfl⟩:=bA.1 Z;have aq:=H.1 j E l n U;rwa[rz aq,upd_ne q o (dH u),qw t u _ Apo],λj l=>by rw[qw t (g':=i) (by simp at l;omega) _ Apo];exact H.2 j (by simpa using l)⟩ (b9 p _ _ _ _ i g.1.1 g.1.place X Aa a6 hm au);exact⟨a1+1,K,aa,ab,ad,ai,a8,aj,by simp[runNT,L,bu];exact hr,hz.trans S,x0,xb,xF,xO⟩
end
def Hm(Wg:Nat)(l:Loc):Prop:=∃a,l=.cell a/\a.block=Wg
def kindOf:Obj->Option uy
 |pf _ e _=>je e
 |_=>zt
structure Po(w w':qi):Prop where
 size:iZ w.1<=iZ w'.1
 kind:∀(i:Nat)o,w.1[i]?=je o->∃o',w'.1[i]?=je o'/\kindOf o'=kindOf o
def Po.refl(w):Po w w:=⟨aA _,λi o h=>⟨o,h,T⟩⟩
def Po.at(w d):Po w (w.at d):=⟨aA _,λi o h=>⟨o,h,T⟩⟩
structure GO(Shun:iH)(Wg Ch)(LA LB:qi->Loc->Bool->Prop):Prop where
 apart:∀w l x y,LA w l x->LB w l y->x=vy/\y=vy
 aOut:∀w l x,LA w l x->¬Hm Wg l/\l≠.obj Ch/\¬Shun l
 bOut:∀w l x,LB w l x->¬Hm Wg l/\l≠.obj Ch/\¬Shun l
 aGrow:∀w w' l x,Po w w'->LA w l x->LA w' l x
 bGrow:∀w w' l x,Po w w'->LB w l x->LB w' l x
 wgS:∀l,Hm Wg l->¬Shun l
 chS:¬Shun (.obj Ch)
section
variable (p:iH) (k b N:Nat) (LA LB:Z->Loc->Bool->Prop)
structure TI(t w dA dB):Prop where
 clean:∀said,¬Race said t
 knA:∀i a,um t i=je a->a.loc.isMemory=jz->Knows t 0 i∨(p a.loc/\a.kind=.atomic)∨(t.g? i=je k/\(LB w a.loc a.write∨((Hm b a.loc∨a.loc=.obj N)/\a.kind=.atomic)))
 knB:∀i a,um t i=je a->a.loc.isMemory=jz->Knows t k i∨(p a.loc/\a.kind=.atomic)∨(t.g? i=je 0/\(LA w a.loc a.write∨(Hm b a.loc/\a.kind≠.plain)∨(a.loc=.obj N/\a.kind=.atomic)))
 over:∀i g,t.g? i=je g->g≠0->g≠k->t.counts i->∃j,t.g? j=je 0/\jj t i j
 dA:kj t 0=dA
 dB:kj t k=dB
 seen:∀op∈t,op.act.low w.1.size
end
section
variable {k N:Nat} {LA LB:Z->Loc->Bool->Prop} {d:Z} {a:Nat}
def Ry{k}(c:∀i g,t.g? i=je g->g≠0->g≠k->t.counts i->∃j,t.g? j=je 0/\jj t i j)(A:∀b∈u,b.g=0∨b.g=k∨b.act.touch? = zt):∀i g,(t++u).g? i=je g->g≠0->g≠k->(t++u).counts i->∃j,(t++u).g? j=je 0/\jj (t++u) i j:=by
 intro i g m e f h;have ⟨x,r,l⟩:=h;have ⟨b,a,z⟩:=vj r;obtain⟨n,p⟩|⟨_,q⟩:=getElem?_append_cases a;have ⟨j,o,v⟩:=c i g (by simpa[xd,getElem?_append_old n] using m) e f ((counts_old n).1 ⟨x,r,l⟩);have d:j<t.size:=by rw[xd]at o;grind
 exact⟨j,by simpa[xd,getElem?_append_old d] using o,q9 u v⟩;have y:b.g=g:=by simpa[xd,a] using m
 grind
def Zc{g}(h:t.g? i=je g):(t++u).g? i=je g:=by rw[xd]at h;have ⟨z,a,b⟩:=bA.1 h;rw[g?_old (lt_size_of_getElem? a),xd];omega
def Tf(b:∀a∈t,a.act.low h.1.size)(c:iZ h.1<=iZ d.1)(e:∀a∈u,a.act.low d.1.size):=
 ud (λa f=>MemAct.low_mono c (b a f)) e
def TI.appA(Q:GO y q N LA LB)(S:0<k)(p:TI y k q N LA LB t h a e)(D:Po h d)(A:∀j∈u,j.g=0){s}(F:∀j∈u,∀b,j.act.touch? = je b->b.loc.isMemory=jz->LA d b.loc b.write∨(Hm q b.loc/\b.kind≠.plain)∨(b.loc=.obj N/\b.kind=.atomic))(J:kj (t++u) 0=s)(M:∀j∈u,j.act.low d.1.size):TI y k q N LA LB (t++u) d s e:=by refine⟨λC=>jk (p.1 C) A λz v E j g b K o=>?_,λz v E n=>?_,λz v E n=>?_,Ry p.4 λj g=>zk (A j g),J,?_,Tf p.7 D.1 M⟩;have n:b.1.isMemory=jz:=o.1▸o.2.1;obtain O|⟨w,_⟩|⟨_,f⟩:=p.2 z v E o.2.1;exact O;exfalso;obtain c|⟨c,_⟩|⟨c,_⟩:=F j g b K n;exact(Q.2 _ _ _ c).2.2 (o.1▸w);exact Q.6 _ c (o.1▸w);exact Q.7 (c▸o.1▸w);exfalso;obtain⟨i,_,r,m⟩:=o;obtain f|⟨f,I⟩:=f;obtain c|⟨c,_⟩|⟨c,_⟩:=F j g b K n;have:=Q.1 d b.1 b.2 v.2 c (i▸Q.5 _ _ _ _ D f);obtain r|r:=r;rw[this.2]at r;cases r;rw[this.1]at r;cases r;exact(Q.3 _ _ _ f).1 (i▸c);exact(Q.3 _ _ _ f).2.1 (i.trans c);obtain c|⟨c,P⟩|⟨c,R⟩:=F j g b K n;obtain f|f:=f;exact(Q.2 _ _ _ c).1 (i▸f);exact(Q.2 _ _ _ c).2.1 (i▸f);rw[I]at m;obtain x|x|⟨_,x,_⟩:=m;cases x;exact P x;cases x;rw[I,R]at m;obtain x|x|⟨_,x,_⟩:=m;cases x;cases x;cases x;obtain⟨x,B,l⟩:=vj E;obtain⟨_,L⟩|⟨_,H⟩:=getElem?_append_cases B;obtain c|c|⟨c,G⟩:=p.2 z v (by rwa[touchAt_of L]) n;exact zk (c.app u);exact qx (zk c);exact qx (qx ⟨Zc c,G.imp (Q.5 _ _ _ _ D) id⟩);have:=knows_own B;rw[A x H]at this;exact zk this;obtain⟨x,B,l⟩:=vj E;obtain⟨_,L⟩|⟨_,H⟩:=getElem?_append_cases B;obtain c|c|⟨c,G⟩:=p.3 z v (by rwa[touchAt_of L]) n;exact zk (c.app u);exact qx (zk c);exact qx (qx ⟨Zc c,G.imp (Q.4 _ _ _ _ D) id⟩);exact qx (qx ⟨by simp[xd,B,A x H],F x H v l n⟩);rw[←p.6];exact qw t (g:=k) (g':=0) Aa u A
def TI.appB(Q:GO y q N LA LB)(S:0<k)(j:TI y k q N LA LB t h a e)(F:Po h d)(B:∀g∈u,g.g=k){v}(A:∀g∈u,∀b,g.act.touch? = je b->b.loc.isMemory=jz->LB d b.loc b.write∨((Hm q b.loc∨b.loc=.obj N)/\b.kind=.atomic))(J:kj (t++u) k=v)(O:∀g∈u,g.act.low d.1.size):TI y k q N LA LB (t++u) d a v:=by refine⟨λD=>jk (j.1 D) B λE p H g z b K o=>?_,λE p H l=>?_,λE p H l=>?_,Ry j.4 λg z=>qx (zk (B g z)),?_,J,Tf j.7 F.1 O⟩;have l:b.1.isMemory=jz:=o.1▸o.2.1;obtain P|⟨w,_⟩|⟨_,f⟩:=j.3 E p H o.2.1;exact P;exfalso;obtain c|⟨c|c,_⟩:=A g z b K l;exact(Q.3 _ _ _ c).2.2 (o.1▸w);exact Q.6 _ c (o.1▸w);exact Q.7 (c▸o.1▸w);exfalso;obtain⟨i,_,r,m⟩:=o;obtain f|⟨f,I⟩|⟨f,R⟩:=f;obtain c|⟨c|c,_⟩:=A g z b K l;have:=Q.1 d b.1 p.2 b.2 (i▸Q.4 _ _ _ _ F f) c;obtain r|r:=r;rw[this.1]at r;cases r;rw[this.2]at r;cases r;exact(Q.2 _ _ _ f).1 (i▸c);exact(Q.2 _ _ _ f).2.1 (i.trans c);obtain c|⟨_,L⟩:=A g z b K l;exact(Q.3 _ _ _ c).1 (i▸f);rw[L]at m;obtain x|x|⟨_,_,x⟩:=m;exact I x;cases x;cases x;obtain c|⟨_,L⟩:=A g z b K l;exact(Q.3 _ _ _ c).2.1 (i.symm.trans f);rw[L,R]at m;obtain x|x|⟨_,_,x⟩:=m;cases x;cases x;cases x;obtain⟨x,C,M⟩:=vj H;obtain⟨_,s⟩|⟨_,n⟩:=getElem?_append_cases C;obtain c|c|⟨c,G⟩:=j.2 E p (by rwa[touchAt_of s]) l;exact zk (c.app u);exact qx (zk c);exact qx (qx ⟨Zc c,G.imp (Q.5 _ _ _ _ F) id⟩);exact qx (qx ⟨by simp[xd,C,B x n],A x n p M l⟩);obtain⟨x,C,M⟩:=vj H;obtain⟨_,s⟩|⟨_,n⟩:=getElem?_append_cases C;obtain c|c|⟨c,G⟩:=j.3 E p (by rwa[touchAt_of s]) l;exact zk (c.app u);exact qx (zk c);exact qx (qx ⟨Zc c,G.imp (Q.4 _ _ _ _ F) id⟩);have:=knows_own C;rw[B x n]at this;exact zk this;rw[←j.5];exact qw t (g:=0) (g':=k) Aa u B
def TI.appMute(Q:GO y q N LA LB)(f:TI y k q N LA LB t h a e)(F:Po h d)(C:∀j∈u,j.act.touch? = zt)(n:kj (t++u) 0=kj t 0)(w:kj (t++u) k=kj t k)(B:∀j∈u,j.act.low d.1.size):TI y k q N LA LB (t++u) d a e:=by (have m:∀i b,um (t++u) i=je b->um t i=je b:=λi b g=>by obtain⟨J,D,K⟩:=vj g;obtain⟨_,x⟩|⟨_,L⟩:=getElem?_append_cases D;rwa[touchAt_of x];grind);refine⟨λl=>?_,λi b g r=>?_,λi b g r=>?_,Ry f.4 λj s=>qx (qx (C j s)),n.trans f.5,w.trans f.6,Tf f.7 F.1 B⟩;rintro⟨i,p,z,⟨b,v,g,E,A⟩,H,I⟩;exact f.1 l ⟨i,p,z,⟨b,v,m i b g,m p v E,A⟩,λo=>H (q9 u o),λo=>I (q9 u o)⟩;obtain c|c|⟨c,G⟩:=f.2 i b (m i b g) r;exact zk (c.app u);exact qx (zk c);exact qx (qx ⟨Zc c,G.imp (Q.5 _ _ _ _ F) id⟩);obtain c|c|⟨c,G⟩:=f.3 i b (m i b g) r;exact zk (c.app u);exact qx (zk c);exact qx (qx ⟨Zc c,G.imp (Q.4 _ _ _ _ F) id⟩)
def TI.grow(Q:GO y q N LA LB)(b:TI y k q N LA LB t h a e)(c:Po h d):TI y k q N LA LB t d a e:=by have:=b.appMute (u:=#[]) Q c Ae Ae Ae Ae;simpa using this
end
def Ic(Wg:Nat):uw:=(iQ Wg)
def NN(Wg:Nat):uw:=(iR Wg 1)
def Vj(m:Mark):Event:=⟨.mark m,vy,jz⟩
def NL(a:uw):Event:=⟨.cell a,vy,jz⟩
def wrE(a:uw):Event:=⟨.cell a,jz,jz⟩
structure RI(k Wg)(t:zq)(r):Prop where
 act:t.act? r=je (.mark (.releaseMerge (Ic Wg)))
 g:t.g? r=je k
 heard:t.heard r
 late:∀i a,r<i->t.g? i=je k->um t i=je a->Hm Wg a.loc/\a.kind=.atomic/\0<t.deaf k i
 norel:∀i,r<i->t.act? i≠je (.mark (.release (Ic Wg)))
section
variable {k N:Nat} {LA LB:Z->Loc->Bool->Prop} {d:Z} {a:Nat}
def RI.app(h:RI k q t r)(e:∀j∈u,j.act≠.mark (.release (Ic q)))(w:∀i a,t.size<=i->(t++u).g? i=je k->um (t++u) i=je a->Hm q a.loc/\a.kind=.atomic/\0<(t++u).deaf k i):RI k q (t++u) r:=by have m:=lt_of_act? h.1;refine⟨act?_old m▸h.1,Zc h.g,(gl m).2 h.3,λi a d o n=>?_,λi d f=>?_⟩;obtain b|p:=gT i t.size;have:=h.4 i a d (by rwa[g?_old b]at o) (by rwa[touchAt_old b]at n);rwa[zm (eI b)];grind;obtain⟨j,s,c⟩:=bA.1 f;obtain⟨b,g⟩|⟨_,l⟩:=getElem?_append_cases s;exact h.5 i d (by rw[act?_of g,c]);exact e j l c
def RI.appOther(h:RI k q t r)(f:∀b∈u,b.g≠k/\b.act≠.mark (.release (Ic q))):=h.app (λb c=>(f b c).2) λi a g d _=>by have ⟨b,j,e⟩:=bA.1 d;grind
def RI.appOwn(c:RI k q t r)(a b X)(A:∀e∈X,e.loc≠.mark (.release (Ic q)))(n:∀j e,X[j]?=je e->(MemAct.ofEvent e).touch? = zt∨((∃f wr,e=⟨.cell f,wr,jz⟩/\f.block=q)/\0<xp (kj t k) (X.extract 0 j))):RI k q (t++MemOp.ofEvents k a b X) r:=by
 refine c.app (λu p e=>?_) λi m E D h=>?_;obtain⟨x,B,rfl⟩:=xy p;apply A x B;obtain⟨g,wr,v⟩:=x;cases g with|mark w=>cases wr<;>cases v<;>simp[MemAct.ofEvent]at e<;>rw[e]|obj F=>cases wr<;>cases v<;>simp[MemAct.ofEvent]at e|_=>simp[MemAct.ofEvent]at e
 obtain⟨u,G,d⟩:=vj h;have s:(MemOp.ofEvents k a b X)[i - t.size]?=je u:=by grind
 rw[ofEvents_eq,aM]at s;obtain⟨e,z,rfl⟩:=bA.1 s;have o:i - t.size<=X.size:=by grind
 obtain C|⟨⟨f,wr,rfl,l⟩,y⟩:=n _ e z;grind;have:=deaf_inside t k a b X (i - t.size) o;rw[show t.size+(i - t.size)=i by omega]at this;rw[this];cases wr<;>simp[MemAct.ofEvent,MemAct.touch?]at d<;>subst d<;>exact⟨⟨f,T,l⟩,T,y⟩
def ofEvents_one(g fn pos m):MemOp.ofEvents g fn pos #[Vj m]=#[{ g,fn,pos,act:=.mark m }]:=by rw[ofEvents_eq];simp[Vj,MemAct.ofEvent]
def RI.new(f:kj t k=0)(fn pos):RI k q (t++MemOp.ofEvents k fn pos #[Vj (.releaseMerge (Ic q))]) t.size:=by rw[ofEvents_one];have g:(t++#[({ g:=k,fn,pos,act:=.mark (.releaseMerge (Ic q)) }:MemOp)])[t.size]?=je { g:=k,fn,pos,act:=.mark (.releaseMerge (Ic q)) }:=Ae;(have zt:∀i,t.size<i->(t++#[({ g:=k,fn,pos,act:=.mark (.releaseMerge (Ic q)) }:MemOp)])[i]?=zt:=λi b=>by grind);refine⟨by rw[act?_of g],by simp[xd],⟨k,by simp[xd],by rwa[zm (aA _)]⟩,λi a b c _=>?_,λi b e=>?_⟩;rw[xd,zt i b]at c;cases c;rw[Trace.act?,zt i b]at e;cases e
def TI.join(hk:0<k)(f:TI y k q N LA LB t h 0 e)(R:RI k q t r)(fn pos)(hW:q<iZ h.1):Past (λl=>y l∨Hm q l) h.1.size (t++MemOp.ofEvents 0 fn pos #[Vj (.acquire (Ic q))]):=by
 rw[ofEvents_one];have U:(t++#[({ g:=0,fn,pos,act:=.mark (.acquire (Ic q)) }:MemOp)])[t.size]?=je { g:=0,fn,pos,act:=.mark (.acquire (Ic q)) }:=Ae;have M:=lt_of_act? R.1;obtain⟨T,j,D⟩:=bA.1 R.1;have Q:T.g=k:=by have:=R.g;simpa[xd,j] using this
 have V:jj (t++#[({ g:=0,fn,pos,act:=.mark (.acquire (Ic q)) }:MemOp)]) r t.size:=.single (qx ⟨.marked (a:=Ic q) M (qx (act?_old M▸R.1)) (by rw[act?_of U]) (λm u F=>act?_old F▸R.5 m u),(gl M).2 R.3,⟨0,by simp[xd],zm (aA _)▸f.5⟩⟩);have O:∀i s,t[i]?=je s->s.g=k->i<r->jj (t++#[({ g:=0,fn,pos,act:=.mark (.acquire (Ic q)) }:MemOp)]) i t.size:=λi s W I c=>(q9 _ (hb_po c W j (I.trans Q.symm))).trans V;have w:∀i a,um (t++#[({ g:=0,fn,pos,act:=.mark (.acquire (Ic q)) }:MemOp)]) i=je a->i<t.size/\um t i=je a:=λi a B=>by obtain⟨x,P,A⟩:=vj B;obtain⟨c,o⟩|⟨_,X⟩:=getElem?_append_cases P;exact⟨c,by rwa[touchAt_of o]⟩;(have:x = { g:=0,fn,pos,act:=.mark (.acquire (Ic q)) }:=by simpa using X);rw[this]at A;cases A
 refine⟨λY=>?_,λi a B Z=>?_,λi g I a1 H=>?_,?_,?_⟩;rintro⟨i,m,J,⟨a,b,B,G,H⟩,n1,n2⟩;exact f.1 Y ⟨i,m,J,⟨a,b,(w i a B).2,(w m b G).2,H⟩,λE=>n1 (q9 _ E),λE=>n2 (q9 _ E)⟩;obtain⟨c,z⟩:=w i a B;obtain u|⟨u,F⟩|⟨u,F⟩:=f.2 i a z Z;exact zk (u.app _);exact qx ⟨zk u,F⟩;obtain⟨s,d,K⟩:=bA.1 u;obtain n|rfl|L:=fF i r;exact zk ⟨t.size,_,U,iW,qx (O i s d K n)⟩;rw[j]at d;obtain rfl:=aC d;rw[touchAt_of j,D]at z;cases z;obtain⟨x1,x2,_⟩:=R.4 i a L u z;exact qx ⟨qx x1,x2⟩;obtain⟨x,P,a6,v⟩:=H;obtain⟨c,o⟩:=w i x P;have p:t.g? i=je g:=by rwa[g?_old c]at I
 by_cases C:g=k;subst C;obtain⟨s,d,K⟩:=bA.1 p;obtain n|rfl|L:=fF i r;exact⟨t.size,by simp[xd],O i s d K n⟩;rw[j]at d;obtain rfl:=aC d;rw[touchAt_of j,D]at o;cases o;obtain⟨_,y2,y3⟩:=R.4 i x L p o;exfalso;obtain v|v:=v;exact v y2;obtain⟨g1,S,e2⟩:=(gl c).1 v;rw[p]at S;obtain rfl:=aC S;omega;obtain⟨m,hj,G⟩:=f.4 i g p a1 C ⟨x,o,a6,v.imp id (gl c).1⟩;exact⟨m,Zc hj,q9 _ G⟩;rw[Deaf_push];exact f.5;refine ud f.7 λs a7=>?_;have:s = { g:=0,fn,pos,act:=.mark (.acquire (Ic q)) }:=by simpa using a7
 rwa[this]
end
def Wl:Obj->Prop
 |.pending _ _=>False
 |.view _ _=>False
 |_=>True
structure Jd(K:Nat->Obj->Prop)(w w':qi):Prop where
 tape:w'.tape=w.tape
 os:w'.os=w.os
 output:w'.output=w.output
 size:iZ w.1<=iZ w'.1
 keep:∀i(o:Obj),w.1[i]?=je o->K i o->w'.1[i]?=je o
 far:∀(i:Nat)o,w'.1[i]?=je o->¬Wl o->w.1[i]?=je o
def Jd.refl(K:Nat->Obj->Prop)(w):Jd K w w:=⟨T,T,T,aA _,λ_ _ h _=>h,λ_ _ h _=>h⟩
def Jd.trans{a b c}(h:Jd K a b)(d:Jd K b c):Jd K a c:=
 ⟨d.tape.trans h.tape,d.os.trans h.os,d.output.trans h.output,aD h.size d.size,λi o e k=>d.keep i o (h.keep i o e k) k,λi o e n=>h.6 i o (d.6 i o e n) n⟩
def Jd.at(K:Nat->Obj->Prop)(w d):Jd K w (w.at d):=⟨T,T,T,aA _,λ_ _ h _=>h,λ_ _ h _=>h⟩
def KK:Int:=4294967296
def NF(ty:uy)(st sm:Int):Obj:=pf #[wy .u64 st,wy .u32 sm] ty
def Ev(ty:uy)(Wg:Nat)(w:Z)(st sm:Int):Prop:=w.1[Wg]?=je (NF ty st sm)
def Fi(ty:uy)(Wg:Nat)(w:Z):Prop:=∃st sm,Ev ty Wg w st sm
def Adk(ty:uy)(Wg Ch:Nat)(w:Z):Prop:=Fi ty Wg w/\∃s r tm,w.1[Ch]?=je (.chan 0 #[] jz s r tm)
structure NO where
 P:jd
 Shun:Loc->Prop
 k:Nat
 Wg:Nat
 Ch:Nat
 ty:uy
 LA:qi->Loc->Bool->Prop
 LB:qi->Loc->Bool->Prop
 KB:Nat->Obj->Prop
 w0:qi
 PostA:gy->qi->Prop
structure NO.Ok(C:NO):Prop where
 hk:0<C.k
 parts:GO C.Shun C.Wg C.Ch C.LA C.LB
 neq:C.Wg≠C.Ch
 kb:∀i o,C.9 i o->i≠C.Wg
 postAt:∀g w d,C.11 g (w.at d)↔C.11 g w
def RG(ty:uy)(Wg:Nat)(w w₁:Z):Prop:=Fi ty Wg w->Fi ty Wg w₁
def rgT{I}:∀a b c,RG I q a b->RG I q b c->RG I q a c:=λ_ _ _ h k x=>k (h x)
def SP{I}:RG I q w w:=id
abbrev D0:Z->Z->Array Event->Prop:=Go.ConcX.DC0
section
variable (P:jd) (I:uy) (b:Nat)
def BD4(g:E)(w:Z):Prop:=
 g.status=.running/\((∃st,Ev I b w st 0)->∃g',F P vy g w=.go g' (w.setCell (NN b) (wy .u32 1)) (semEvents (NN b))/\ky P g=jz/\∃q,QuitsD P q 1 g')
def BD3(g:E)(w:Z):Prop:=
 g.status=.running/\((∃st,Ev I b w st 0)->∃g',F P vy g w=.go g' (w.setCell (Ic b) (wy .u64 0)) #[wrE (Ic b)]/\∃m,W P vy (RG I b) D0 (BD4 P I b) m g' (w.setCell (Ic b) (wy .u64 0)))
def BD2(g:E)(w:Z):Prop:=
 g.status=.running/\(Ev I b w 1 0->∃g',F P vy g w=.go g' w #[NL (Ic b)]/\∃m,W P vy (RG I b) D0 (BD3 P I b) m g' w)
def BD1(g:E)(w:Z):Prop:=
 g.status=.running /\
  (Ev I b w KK 0->∃g',F P vy g w=.go g' (w.setCell (Ic b) (wy .u64 0)) #[NL (Ic b),wrE (Ic b)]/\∃q,QuitsD P q 1 g') /\
  (Ev I b w (KK+1) 0->∃g',F P vy g w=.go g' (w.setCell (Ic b) (wy .u64 1)) #[NL (Ic b),wrE (Ic b)]/\∃m,W P vy (RG I b) D0 (BD2 P I b) m g' (w.setCell (Ic b) (wy .u64 1)))
def BK1(g:E)(w:Z):Prop:=
 g.status=.running/\∃g',F P vy g w=.go g' w #[Vj .disable]/\∃m,W P vy (RG I b) D0 (BD1 P I b) m g' w
def BR0(g:E)(w:Z):Prop:=
 g.status=.running/\∃g',F P vy g w=.go g' w #[Vj (.releaseMerge (Ic b))]/\∃m,W P vy (RG I b) D0 (BK1 P I b) m g' w
end
section
variable (C:NO)
def Apf(g:E)(w:Z):Prop:=
 g.status=.running/\∃g',F C.P jz g w=.go g' w #[Vj (.acquire (Ic C.Wg))]/\g'.status=.running/\C.11 g' w
def AKe(g:E)(w:Z):Prop:=
 g.status=.running/\∃g',F C.P jz g w=.go g' w #[Vj .enable]/\∃m,W C.P jz (RG C.ty C.Wg) D0 (Apf C) m g' w
def AW4(g:E)(w:Z):Prop:=
 g.status=.running/\(Ev C.ty C.Wg w 0 0->∃g',F C.P jz g w=.go g' w #[NL (Ic C.Wg)]/\∃m,W C.P jz (RG C.ty C.Wg) D0 (AKe C) m g' w)
def AW3(g:E)(w:Z):Prop:=
 g.status=.running/\g.5=zt /\
  ((∃st,Ev C.ty C.Wg w st 0)->F C.P jz g w=.go { g with status:=.blocked } w #[]) /\
  (Ev C.ty C.Wg w 0 1->∃g',F C.P jz g w=.go g' (w.setCell (NN C.Wg) (wy .u32 0)) (semEvents (NN C.Wg))/\∃m,W C.P jz (RG C.ty C.Wg) D0 (AW4 C) m g' (w.setCell (NN C.Wg) (wy .u32 0)))
def AWm(g:E)(w:Z):Prop:=
 g.status=.running/\∃g',F C.P jz g w=.go g' w #[Vj (.write (NN C.Wg))]/\∃m,W C.P jz (RG C.ty C.Wg) D0 (AW3 C) m g' w
def AWz(g:E)(w:Z):Prop:=
 g.status=.running/\(Ev C.ty C.Wg w 0 0->∃g',F C.P jz g w=.go g' w #[NL (Ic C.Wg)]/\∃m,W C.P jz (RG C.ty C.Wg) D0 (AKe C) m g' w)
def AW2(g:E)(w:Z):Prop:=
 g.status=.running /\
  (Ev C.ty C.Wg w KK 0->∃g',F C.P jz g w=.go g' (w.setCell (Ic C.Wg) (wy .u64 (KK+1))) #[NL (Ic C.Wg),wrE (Ic C.Wg)]/\∃m,W C.P jz (RG C.ty C.Wg) D0 (AWm C) m g' (w.setCell (Ic C.Wg) (wy .u64 (KK+1)))) /\
  (Ev C.ty C.Wg w 0 0->∃g',F C.P jz g w=.go g' w #[NL (Ic C.Wg)]/\∃m,W C.P jz (RG C.ty C.Wg) D0 (AWz C) m g' w)
def AW1(g:E)(w:Z):Prop:=
 g.status=.running /\
  (Ev C.ty C.Wg w KK 0->∃g',F C.P jz g w=.go g' w #[NL (Ic C.Wg)]/\∃m,W C.P jz (RG C.ty C.Wg) D0 (AW2 C) m g' w) /\
  (Ev C.ty C.Wg w 0 0->∃g',F C.P jz g w=.go g' w #[NL (Ic C.Wg)]/\∃m,W C.P jz (RG C.ty C.Wg) D0 (AKe C) m g' w)
def AKd(g:E)(w:Z):Prop:=
 g.status=.running/\∃g',F C.P jz g w=.go g' w #[Vj .disable]/\∃m,W C.P jz (RG C.ty C.Wg) D0 (AW1 C) m g' w
def ARc(g:E)(w:Z):Prop:=
 g.status=.running/\∃z,F C.P jz g w=.comm (core g) #[uj C.Ch z] jz (.recv jz) w #[]/\∀w₂,RG C.ty C.Wg w w₂->∃m,W C.P jz (RG C.ty C.Wg) D0 (AKd C) m (kt (core g) (gq #[z,o0 vy])) w₂
end
section
variable {C:NO} {d:Z} {a:Nat}
abbrev NO.TI(C:NO)(t:zq)(h:Z)(a e:Nat):Prop:=Pair.TI C.Shun C.k C.Wg C.Ch C.LA C.LB t h a e
def ZP(Wg:Nat)(e:Event):Prop:=(∃a wr,e=⟨.cell a,wr,jz⟩/\a.block=Wg)∨e=Vj .disable∨e=Vj .enable∨e=Vj (.write (NN Wg))∨e=Vj (.read (NN Wg))
def ZQ(Wg:Nat)(e:Event):Prop:=(∃a wr,e=⟨.cell a,wr,jz⟩/\a.block=Wg)∨e=Vj .disable∨e=Vj .enable∨e=Vj (.releaseMerge (Ic Wg))
def Nk(a wr):MemAct.ofEvent ⟨.cell a,wr,jz⟩=.access ⟨.cell a,wr,jz⟩:=T
def Ob(m):MemAct.ofEvent (Vj m)=.mark m:=T
def Ao2(O:C.Ok)(c:C.TI t h a e)(m:Po h d)(j:C.Wg<iZ d.1)(f:∀g∈X,ZP C.Wg g)(u k):C.TI (t++MemOp.ofEvents 0 u k X) d (xp a X) e:=by refine c.appA O.2 O.1 m (λl G=>Cq G) (λl G n Z _=>?_) ?_ (λl G=>?_);obtain⟨g,N,rfl⟩:=xy G;obtain⟨b,o,rfl,i⟩|rfl|rfl|rfl|rfl:=f g N;simp[Nk,MemAct.touch?,aU]at Z;subst Z;exact qx (zk ⟨⟨b,T,i⟩,Ae⟩);cases Z;cases Z;exact Riq;exact Riq;rw[xr,c.5];obtain⟨g,N,rfl⟩:=xy G;obtain⟨b,o,rfl,i⟩|rfl|rfl|rfl|rfl:=f g N;show b.1<_;rwa[i];trivial;trivial;exact j;exact j
def MZ(O:C.Ok)(y:C.TI t h a e)(m:Po h d)(k:C.Wg<iZ d.1)(f:∀g∈X,ZQ C.Wg g)(u j):C.TI (t++MemOp.ofEvents C.k u j X) d a (xp e X):=by refine y.appB O.2 O.1 m (λl G=>Cq G) (λl G n Z _=>?_) ?_ (λl G=>?_);obtain⟨g,N,rfl⟩:=xy G;obtain⟨b,c,rfl,i⟩|rfl|rfl|rfl:=f g N;simp[Nk,MemAct.touch?,aU]at Z;subst Z;exact qx ⟨zk ⟨b,T,i⟩,Ae⟩;cases Z;cases Z;cases Z;rw[xr,y.6];obtain⟨g,N,rfl⟩:=xy G;obtain⟨b,c,rfl,i⟩|rfl|rfl|rfl:=f g N;show b.1<_;rwa[i];trivial;trivial;exact k
def Ah9(O:C.Ok)(f:C.TI t h a e)(l:Po h d)(g:C.Ch<iZ d.1)(u m):C.TI (t++MemOp.ofEvents C.k u m #[⟨.obj C.Ch,vy,jz⟩,⟨.obj C.Ch,jz,jz⟩]) d a e:=by refine f.appB O.2 O.1 l (λi b=>Cq b) (λi b n j _=>?_) ?_ (λi b=>?_);obtain⟨k,c,rfl⟩:=xy b;simp at c;obtain rfl|rfl:=c;simp[MemAct.ofEvent,MemAct.touch?]at j;grind;simp[MemAct.ofEvent,MemAct.touch?]at j;rw[xr,deafBehind_still λk c=>Aj];exact f.6;obtain⟨k,c,rfl⟩:=xy b;simp at c;obtain rfl|rfl:=c;exact g;exact g
def Ak8(O:C.Ok)(g:C.TI t h a e)(i:Po h d)(f:∀b∈u,b.act.touch? = zt/\(∀m,b.act≠.mark m)/\b.act.low d.1.size):C.TI (t++u) d a e:=
 g.appMute O.parts i (λb c=>(f b c).1) (Go.ConcN.Deaf_still t 0 u λb c=>⟨(f b c).2.1 _,(f b c).2.1 _⟩) (Go.ConcN.Deaf_still t C.k u λb c=>⟨(f b c).2.1 _,(f b c).2.1 _⟩) λb c=>(f b c).2.2
def JW(O:C.Ok)(b:C.TI t h a e)(F:i≠0)(m:i≠C.k)(L:∀k∈X,Event.mute k=jz)(u d):C.TI (t++MemOp.ofEvents i u d X) h a e:=b.appMute O.2 (.refl h) Ai0 (qw t (dH (dH F)) _ λl T=>Cq T) (qw t m _ λl T=>Cq T) λl T=>by obtain⟨k,N,rfl⟩:=xy T;exact low_mute (L k N) _
def TI.at(O:C.Ok)(b:C.TI t h a e)(d):C.TI t (h.at d) a e:=b.grow O.parts (.at h d)
def Ml{I a b}(c:Ev I a h b sm)(x):Ev I a (h.setCell (Ic a) (wy .u64 x)) x sm:=by rw[Ev]at c⊢;simp[zo,Ic,NF,bW,c]
def NG{I a b}(c:Ev I a h b sm)(x):Ev I a (h.setCell (NN a) (wy .u32 x)) b x:=by rw[Ev]at c⊢;simp[zo,NN,NF,bW,c]
def E1(a v)(b:i≠a.block):(h.setCell a v).1[i]?=h.1[i]?:=by simp[zo,bW,dH b]
def Sc(a v):(h.setCell a v).1.size=iZ h.1:=by simp[zo]
def Ajv(a v)(i:Nat)(o)(c:(h.setCell a v).1[i]?=je o)(f:¬Wl o):h.1[i]?=je o:=by by_cases d:i=a.1;subst d;simp[zo,bW]at c;have ⟨g,e,b⟩:=c;rw[e];revert b;(cases g<;>intro b<;>first|exact aK je b|(subst b;exact absurd trivial f));rwa[E1 a v d]at c
def IG(a v)(b:∀i o,K i o->i≠a.block):Jd K h (h.setCell a v):=⟨T,T,T,Ae,λi o e k=>by rwa[E1 a v (b i o k)],Ajv a v⟩
def CY(a v):Po h (h.setCell a v):=by refine⟨Ae,λi o b=>?_⟩;by_cases d:i=a.1;subst d;simp[zo,bW,b];cases o<;>rfl;exact⟨o,by rwa[E1 a v d],T⟩
def JZ{I a b}(c:Ev I a h b sm):a<iZ h.1:=by rw[Ev]at c;grind
def Pd(a:h.1[i]?=je o):i<iZ h.1:=by grind
def Yi{c}(a:i≠c):({ h with heap:=h.1.setIfInBounds c o }:Z).1[i]?=h.1[i]?:=by grind
def QS{c}(a:c<iZ h.1):({ h with heap:=h.1.setIfInBounds c o }:Z).1[c]?=je o:=by simp[a]
def Afj{a c}(b:h.1[c]?=je a)(d:kindOf o=kindOf a):Po h { h with heap:=h.1.setIfInBounds c o }:=by refine⟨Ae,λi x e=>?_⟩;grind
end
inductive AT|rc|kd|w1|w2|wz|wm|w3|w4|ke|ac
inductive BT|r0|k1|d1|d2|d3|d4|qt
def Zq:AT->Nat
 |.rc=>12|.kd=>11|.w1=>10|.w2=>9|.wz=>8|.wm=>8|.w3=>7|.w4=>6|.ke=>5|.ac=>4
def NM:BT->Nat
 |.r0=>7|.k1=>6|.d1=>5|.d2=>4|.d3=>3|.d4=>2|.qt=>1
def dfA:AT->Nat
 |.rc|.kd|.ac=>0|_=>1
def dfB:BT->Nat
 |.r0|.k1=>0|_=>1
def Ki:AT->BT->Option (Int×Int)
 |.rc,.qt|.kd,.qt|.w1,.qt|.w2,.qt|.wz,.qt|.w4,.qt|.ke,.qt|.ac,.qt=>je (0,0)
 |.wm,.qt|.w3,.qt=>je (0,1)
 |.wm,.d4|.w3,.d4=>je (0,0)
 |.wm,.d3|.w3,.d3|.wm,.d2|.w3,.d2=>je (1,0)
 |.wm,.r0|.w3,.r0|.wm,.k1|.w3,.k1|.wm,.d1|.w3,.d1=>je (KK+1,0)
 |.rc,.r0|.rc,.k1|.rc,.d1|.kd,.r0|.kd,.k1|.kd,.d1|.w1,.r0|.w1,.k1|.w1,.d1|.w2,.r0|.w2,.k1|.w2,.d1=>je (KK,0)
 |_,_=>zt
section
variable (C:NO)
def StA:AT->E->Z->Prop
 |.rc=>ARc C|.kd=>AKd C|.w1=>AW1 C|.w2=>AW2 C|.wz=>AWz C|.wm=>AWm C|.w3=>AW3 C|.w4=>AW4 C|.ke=>AKe C|.ac=>Apf C
def StB:BT->E->Z->Prop
 |.r0=>BR0 C.P C.ty C.Wg|.k1=>BK1 C.P C.ty C.Wg|.d1=>BD1 C.P C.ty C.Wg|.d2=>BD2 C.P C.ty C.Wg|.d3=>BD3 C.P C.ty C.Wg|.d4=>BD4 C.P C.ty C.Wg|.qt=>λ_ _=>False
def M7(ta:AT)(ra:Nat)(a:E)(w:Z):Prop:=
 (∃n,ra=n+1/\W C.P jz (RG C.ty C.Wg) D0 (StA C ta) n a w) ∨
 (ta=.w3/\ra=0/\∃g,a = { g with status:=.blocked }/\∀w₁,RG C.ty C.Wg w w₁->AW3 C g w₁)
def Qx(tb:BT)(rb dB:Nat)(b:E)(w:Z):Prop:=
 (tb≠.qt/\dB=dfB tb/\∃n,rb=n+1/\W C.P vy (RG C.ty C.Wg) D0 (StB C tb) n b w)∨(tb=.qt/\QuitsD C.P rb dB b)
structure J2(ta tb ra rb a b)(w:qi)(t):Prop where
 ch:∃s r tm,w.1[C.Ch]?=je (.chan 0 #[] jz s r tm)
 wg:∃st sm,Ki ta tb=je (st,sm)/\Ev C.ty C.Wg w st sm
 ti:∃dB,C.TI t w (dfA ta) dB/\Qx C tb rb dB b w
 sa:M7 C ta ra a w
 nb:tb=.qt->ra≠0
 kp:Jd C.9 C.w0 w
 rel:tb≠.r0->∃r,RI C.k C.Wg t r
end
section
variable {C:NO} {a b:gy} {U:AT} {tb:BT} {I:Nat}
def StA.running(h:StA C U g w):g.status=.running:=by cases U<;>exact h.1
def StB.running(h:StB C tb g w):g.status=.running:=by cases tb<;>first|exact h.1|exact h.elim
def M7.rely(c:M7 C U I a h)(d:RG C.ty C.Wg h w'):M7 C U I a w':=by obtain⟨n,e,k⟩|⟨f,i,g,j,l⟩:=c;exact zk ⟨n,e,Goes.rely rgT k d⟩;exact qx ⟨f,i,g,j,λm b=>l m (rgT _ _ _ d b)⟩
def Qx.rely(c:Qx C tb f e b h)(d:RG C.ty C.Wg h w'):Qx C tb f e b w':=by obtain⟨a,g,n,i,j⟩|c:=c;exact zk ⟨a,g,n,i,Goes.rely rgT j d⟩;exact qx c
def M7.status(c:M7 C U I a h):(a.status=.running/\I≠0)∨(a.status=.blocked/\I=0/\U=.w3):=by obtain⟨n,e,b⟩|⟨d,f,g,rfl,_⟩:=c;exact zk ⟨b.running (λ_ _=>StA.running) h SP,Aa⟩;grind
def Qx.status(c:Qx C tb f e b h):b.status=.running∨(b.status=.finished/\tb=.qt):=by obtain⟨_,_,n,d,a⟩|⟨d,c⟩:=c;exact zk (a.running (λ_ _=>StB.running) h SP);exact c.status.imp id λx=>⟨x,d⟩
def Ey{P o}(h:o.status=.running∨o.status=.finished):woken P g R w o=o:=by rw[woken];split;exact again_running _ h;rfl
def Qx.woken{P}(a:Qx C tb f e b h)(g R B):woken P g R B b=b:=Ey (a.status.imp id (·.1))
def M7.woken{P}(c:M7 C U I a h)(g R B):∃b≤I+1,(I≠0->b≠0)/\M7 C U b (woken P g R B a) h:=by
 obtain⟨n,e,q⟩|⟨m,t,x,rfl,l⟩:=c;refine⟨I,Aa,id,?_⟩;rw[Ey (zk (q.running (λ_ _=>StA.running) h SP))];exact zk ⟨n,e,q⟩;have p:=l h SP;by_cases r:(ky P g&&R.3 != .blocked&&R.3 != .waiting)=jz;refine⟨1,Aa,λ_=>Aa,zk ⟨0,T,?_⟩⟩;have k:od P g R B { x with status:=.blocked }=x:=by rw[od,aL r];obtain⟨f,d,s,o,w⟩:=x;have u:=p.1;have v:=p.2.1;subst u v;rfl
 rw[k];subst m;exact λj i=>l j i;refine⟨I,Aa,id,?_⟩;have k:od P g R B { x with status:=.blocked } = { x with status:=.blocked }:=by rw[od,aO r]
 rw[k];exact qx ⟨m,t,x,T,l⟩
def M7.wakes{P}(d:M7 C U I a h)(B)(r:(ky P g&&R.status != .blocked&&R.status != .waiting)=jz):∃i≠0,M7 C U i (od P g R B a) h:=by obtain⟨n,e,l⟩|⟨p,v,x,rfl,m⟩:=d;refine⟨I,Aa,?_⟩;rw[Ey (zk (l.running (λ_ _=>StA.running) h SP))];exact zk ⟨n,e,l⟩;have c:=m h SP;refine⟨1,Aa,zk ⟨0,T,?_⟩⟩;(have k:od P g R B { x with status:=.blocked }=x:=by rw[od,aL r];have ⟨o,q,s,u,w⟩:=x;have f:=c.1;have t:=c.2.1;subst f t;rfl);rw[k];subst p;exact λj b=>m j b
end
section
variable (C:NO)
structure Fin(a b:gy)(w:qi)(t):Prop where
 run:a.status=.running
 past:Past (λl=>C.Shun l∨Hm C.Wg l) w.1.size t
 quits:∃n,QuitsD C.P n (kj t C.k) b
 post:C.11 a w/\Jd C.9 C.w0 w
 shut:Adk C.ty C.Wg C.Ch w
def J(μ:Nat×Nat)(a b:E)(w:Z)(t:zq):Prop:=
 (μ=(0,0)/\Fin C a b w t)∨∃ta tb ra rb,μ=(Zq ta+NM tb,ra+2 * rb)/\J2 C ta tb ra rb a b w t
abbrev ZS:Nat×Nat->Nat×Nat->Prop:=Prod.Lex (· < ·) (· < ·)
def Aj7:WellFounded ZS:=(Prod.lex ⟨_,Nat.lt_wfRel.wf⟩ ⟨_,Nat.lt_wfRel.wf⟩).wf
end
section
variable {C:NO} {d:Z} {a b:gy} {U c:AT} {tb g:BT} {I:Nat}
def Akd(h:∀e∈X,ZP C.Wg e)(i:0<C.k)(u d):∀c∈MemOp.ofEvents 0 u d X,c.g≠C.k/\c.act≠.mark (.release (Ic C.Wg)):=by intro c b;obtain⟨e,f,rfl⟩:=xy b;refine⟨by show 0≠C.k;omega,?_⟩;obtain⟨a,j,rfl,g⟩|rfl|rfl|rfl|rfl:=h e f<;>simp[MemAct.ofEvent,Vj]
def MC{g u a}:t++MemOp.ofEvents g u a #[]=t:=by simp[MemOp.ofEvents]
def J2.wgA(O:C.Ok)(q:J2 C U tb I f a b h t){e}(l:∀y∈X,ZP C.Wg y){g p}(A:d=h∨∃i v,d=h.setCell i v/\i.block=C.Wg)(z:Ki c tb=je (p,sm))(r:Ev C.ty C.Wg d p sm)(G:xp (dfA U) X=dfA c)(H:M7 C c g e d)(u:tb=.qt->g≠0):J2 C c tb g f e (woken C.P a e d b) d (t++MemOp.ofEvents 0 a.frame.fn a.frame.place X):=by
 obtain⟨B,E,n⟩:=q.3;rw[n.woken];obtain⟨s,w,J,M⟩:=q.1;have F:Jd C.9 h d:=by obtain rfl|⟨i,v,rfl,m⟩:=A;exact .refl _ _;exact IG i v λj o k=>m▸O.4 j o k
 have K:Po h d:=by obtain rfl|⟨i,v,rfl,m⟩:=A;exact .refl _;exact CY i v
 have D:d.1[C.5]?=h.1[C.5]?:=by obtain rfl|⟨i,v,rfl,m⟩:=A;rfl;exact E1 i v (m▸dH O.3)
 have x:=Ao2 O E K (JZ r) l a.1.1 a.1.place;rw[G]at x;exact⟨⟨s,w,J,by rwa[D]⟩,⟨p,sm,z,r⟩,⟨B,x,n.rely λ_=>⟨p,sm,r⟩⟩,H,u,q.6.trans F,λL=>let⟨w,u⟩:=q.7 L;⟨w,u.appOther (Akd l O.1 _ _)⟩⟩
def OT(a):∀e∈(#[NL (Ic a)]:Array Event),ZP a e:=λe b=>by simp at b;subst b;exact zk ⟨_,_,T,T⟩
def Aqa(a):∀e∈(#[NL (Ic a),wrE (Ic a)]:Array Event),ZP a e:=λe b=>by exact Hw9
def Anc(a):∀e∈semEvents (NN a),ZP a e:=λe b=>by exact Vks
def Oo{a n g}(h:W C.P jz (RG C.ty C.Wg) D0 (StA C a) n g w):M7 C a (n+1) g w:=zk ⟨n,T,h⟩
def Aou(O:C.Ok)(c:J2 C U tb I f a b h t)(K:a.status=.running):StepA C.P C.k a b h t λE F d S=>∃M,ZS M (Zq U+NM tb,I+2 * f)/\J C M E F d S:=by obtain⟨n,rfl,G⟩|⟨_,_,g,rfl,_⟩:=c.4;rotate_left;cases K;obtain z|⟨D,rfl,N⟩:=G.cases;rotate_left;obtain⟨g',w1,es,i,⟨rfl,rfl⟩,j⟩:=N h SP;refine zk ⟨g',_,_,i,_,.right _ Aa,qx ⟨U,tb,D+1,f,iW,?_⟩⟩;have ⟨aa,T,o⟩:=c.3;rw[o.woken,MC];exact { c with sa:=zk ⟨D,rfl,j⟩,nb:=λ_=>by omega };have q:=z h SP;obtain⟨v,sm,i,e⟩:=c.2;cases U with|rc=>obtain⟨_,R,W,B⟩:=q;obtain⟨m,j⟩:=B h SP;obtain⟨s,r,X,Q⟩:=c.1;obtain⟨V,w,u⟩:=c.3;refine qx (qx (qx ⟨core a,C.5,R,#[],s,r,X,W,Q,?_,_,.left _ _ (cI (show Zq .kd<Zq .rc by decide) _),qx ⟨.kd,tb,m+1,f,iW,?_⟩⟩));obtain x|⟨x,_⟩:=u.status<;>rw[x]<;>simp;(have l:∀H∈(MemOp.ofEvents 0 a.1.1 a.1.place #[]++#[({ g:=0,fn:=(core a).1.1,pos:=(core a).1.place,act:=.recvClosed C.5 }:MemOp)]),H = { g:=0,fn:=(core a).1.1,pos:=(core a).1.place,act:=.recvClosed C.5 }:=λH l=>by simpa[MemOp.ofEvents] using l);refine⟨⟨s,r,X,Q⟩,⟨v,sm,?_,e⟩,⟨V,Ak8 O w (.refl _) λH T=>?_,u⟩,zk ⟨m,iW,j⟩,λ_=>Aa,c.6,λY=>let⟨r,Z⟩:=c.7 Y;⟨r,Z.appOther λH T=>?_⟩⟩;revert i;cases tb<;>exact id;rw[l H T];exact⟨iW,λm=>Ae,Pd Q⟩;rw[l H T];exact⟨by show 0≠C.k;have:=O.1;omega,Ae⟩|kd=>obtain⟨_,g',k,m,j⟩:=q;exact zk ⟨g',h,_,k,_,.left _ _ (cI (show Zq .w1<Zq .kd by decide) _),qx ⟨.w1,tb,m+1,f,iW,c.wgA O (λo y=>by simp at y;exact qx (zk y)) (zk iW) KX e iW (Oo j) λ_=>Aa⟩⟩|w1=>obtain⟨_,P,A⟩:=q;(have:(v=KK/\sm=0)∨(v=0/\sm=0/\tb=.qt):=by exact I6b);obtain⟨rfl,rfl⟩|⟨rfl,rfl,rfl⟩:=this;obtain⟨g',k,m,j⟩:=P e;exact zk ⟨g',h,_,k,_,.left _ _ (cI (show Zq .w2<Zq .w1 by decide) _),qx ⟨.w2,tb,m+1,f,iW,c.wgA O (OT _) (zk iW) KX e iW (Oo j) λ_=>Aa⟩⟩;obtain⟨g',k,m,j⟩:=A e;exact zk ⟨g',h,_,k,_,.left _ _ (cI (show Zq .ke<Zq .w1 by decide) _),qx ⟨.ke,.qt,m+1,f,iW,c.wgA O (OT _) (zk iW) iW e iW (Oo j) λ_=>Aa⟩⟩|w2=>obtain⟨_,P,A⟩:=q;(have:(v=KK/\sm=0/\Ki .wm tb=je (KK+1,0)/\tb≠.qt)∨(v=0/\sm=0/\tb=.qt):=by exact I6b);obtain⟨rfl,rfl,L,p⟩|⟨rfl,rfl,rfl⟩:=this;obtain⟨g',k,m,j⟩:=P e;exact zk ⟨g',_,_,k,_,.left _ _ (cI (show Zq .wm<Zq .w2 by decide) _),qx ⟨.wm,tb,m+1,f,iW,c.wgA O (Aqa _) (qx ⟨_,_,iW,iW⟩) L (Ml e _) iW (Oo j) λ_=>Aa⟩⟩;obtain⟨g',k,m,j⟩:=A e;exact zk ⟨g',h,_,k,_,.left _ _ (cI (show Zq .wz<Zq .w2 by decide) _),qx ⟨.wz,.qt,m+1,f,iW,c.wgA O (OT _) (zk iW) iW e iW (Oo j) λ_=>Aa⟩⟩|wz=>obtain⟨_,A⟩:=q;(have:v=0/\sm=0/\tb=.qt:=by exact I6b);obtain⟨rfl,rfl,rfl⟩:=this;obtain⟨g',k,m,j⟩:=A e;exact zk ⟨g',h,_,k,_,.left _ _ (cI (show Zq .ke<Zq .wz by decide) _),qx ⟨.ke,.qt,m+1,f,iW,c.wgA O (OT _) (zk iW) iW e iW (Oo j) λ_=>Aa⟩⟩|wm=>obtain⟨_,g',k,m,j⟩:=q;exact zk ⟨g',h,_,k,_,.left _ _ (cI (show Zq .w3<Zq .wm by decide) _),qx ⟨.w3,tb,m+1,f,iW,c.wgA O (λo y=>by simp at y;exact qx (qx (qx (zk y)))) (zk iW) KX e iW (Oo j) λ_=>Aa⟩⟩|w3=>obtain⟨_,ab,a1,hf⟩:=q;(have:(sm=0/\tb≠.qt)∨(v=0/\sm=1/\tb=.qt):=by exact I6b);obtain⟨rfl,p⟩|⟨rfl,rfl,rfl⟩:=this;refine zk ⟨_,h,_,a1 ⟨v,e⟩,_,.right _ Aa,qx ⟨.w3,tb,0,f,iW,c.wgA O Ae (zk iW) i e iW (qx ⟨iW,iW,a,iW,z⟩) λo=>absurd o p⟩⟩;obtain⟨g',k,m,j⟩:=hf e;exact zk ⟨g',_,_,k,_,.left _ _ (cI (show Zq .w4<Zq .w3 by decide) _),qx ⟨.w4,.qt,m+1,f,iW,c.wgA O (Anc _) (qx ⟨_,_,iW,iW⟩) iW (NG e _) iW (Oo j) λ_=>Aa⟩⟩|w4=>obtain⟨_,A⟩:=q;(have:v=0/\sm=0/\tb=.qt:=by exact I6b);obtain⟨rfl,rfl,rfl⟩:=this;obtain⟨g',k,m,j⟩:=A e;exact zk ⟨g',h,_,k,_,.left _ _ (cI (show Zq .ke<Zq .w4 by decide) _),qx ⟨.ke,.qt,m+1,f,iW,c.wgA O (OT _) (zk iW) iW e iW (Oo j) λ_=>Aa⟩⟩|ke=>obtain⟨_,g',k,m,j⟩:=q;exact zk ⟨g',h,_,k,_,.left _ _ (cI (show Zq .ac<Zq .ke by decide) _),qx ⟨.ac,tb,m+1,f,iW,c.wgA O (λo y=>by simp at y;exact qx (qx (zk y))) (zk iW) KX e iW (Oo j) λ_=>Aa⟩⟩|ac=>obtain⟨_,g',k,a6,a7⟩:=q;(have p:tb=.qt:=by cases tb<;>simp[Ki]at i<;>rfl);subst p;obtain⟨r,a8⟩:=c.7 Ae;obtain⟨V,w,u⟩:=c.3;refine zk ⟨g',h,_,k,(0,0),.left _ _ (show 0<Zq .ac+NM .qt by decide),zk ⟨iW,a6,w.join O.1 a8 _ _ (JZ e),?_,⟨a7,c.6⟩,⟨⟨_,_,e⟩,c.1⟩⟩⟩;rw[u.woken];obtain⟨x,_⟩|⟨_,ad⟩:=u;exact absurd iW x;refine⟨f,?_⟩;rwa[qw t (g:=C.k) (g':=0) (by have:=O.1;omega) _ (λH l=>Cq l),w.6]
end
section
variable {C:NO} {a b:gy} {U c:AT} {tb tb':BT} {I:Nat}
def J2.wgB(O:C.Ok)(g:J2 C U tb I f a b h t){b' es}(z:∀e∈es,ZQ C.Wg e){u}(F:w'=h∨∃i v,w'=h.setCell i v/\i.block=C.Wg)(D:Ki U tb'=je (u,sm))(l:Ev C.ty C.Wg w' u sm)(M:tb≠.qt)(L:xp (dfB tb) es=j)(N:Qx C tb' q j b' w')(A:tb'=.qt->(U=.wm∨U=.w3)->(ky C.P b&&b'.status != .blocked&&b'.status != .waiting)=jz)(hrel:∃r,RI C.k C.Wg (t++MemOp.ofEvents C.k b.frame.fn b.frame.place es) r):∃c,J2 C U tb' c q (woken C.P b b' w' a) b' w' (t++MemOp.ofEvents C.k b.frame.fn b.frame.place es):=by
 obtain⟨H,E,B⟩:=g.3;obtain⟨s,r,P,R⟩:=g.1;have G:H=dfB tb:=by obtain⟨_,e,_⟩|⟨e,_⟩:=B;exact e;exact absurd e M
 have n:Jd C.9 h w':=by obtain rfl|⟨i,v,rfl,m⟩:=F;exact .refl _ _;exact IG i v λj o k=>m▸O.4 j o k
 have J:Po h w':=by obtain rfl|⟨i,v,rfl,m⟩:=F;exact .refl _;exact CY i v
 have K:w'.1[C.5]?=h.1[C.5]?:=by obtain rfl|⟨i,v,rfl,m⟩:=F;rfl;exact E1 i v (m▸dH O.3)
 have w:=MZ O E J (JZ l) z b.1.1 b.1.place;rw[G,L]at w;have p:=g.4.rely (w':=w') λ_=>⟨u,sm,l⟩;have Q:∃c,(tb'=.qt->c≠0)/\M7 C U c (woken C.P b b' w' a) w':=by by_cases o:tb'=.qt;by_cases y:U=.wm∨U=.w3;obtain⟨c,d,k⟩:=p.wakes (P:=C.P) w' (A o y);exact⟨c,λ_=>d,k⟩;(have:I≠0:=by obtain⟨_,x⟩|⟨_,_,x⟩:=p.status;exact x;exact absurd (qx x) y);obtain⟨c,_,d,k⟩:=p.woken (P:=C.P) b b' w';exact⟨c,λ_=>d this,k⟩;obtain⟨c,_,_,k⟩:=p.woken (P:=C.P) b b' w';exact⟨c,λe=>absurd e o,k⟩
 obtain⟨c,d,k⟩:=Q;exact⟨c,⟨s,r,P,by rwa[K]⟩,⟨u,sm,D,l⟩,⟨j,w,N⟩,k,d,g.6.trans n,λ_=>hrel⟩
def Ane(a):∀e∈(#[NL (Ic a)]:Array Event),ZQ a e:=λe b=>by simp at b;subst b;exact zk ⟨_,_,T,T⟩
def Anf(a):∀e∈(#[wrE (Ic a)]:Array Event),ZQ a e:=λe b=>by simp at b;subst b;exact zk ⟨_,_,T,T⟩
def UE(a):∀e∈(#[NL (Ic a),wrE (Ic a)]:Array Event),ZQ a e:=λe b=>by exact Hw9
def Ajs(a):∀e∈semEvents (NN a),ZQ a e:=λe b=>by exact Vks
def Ym(h:RI C.k C.Wg t r)(d:kj t C.k=1)(b:X=#[NL (Ic C.Wg)]∨X=#[wrE (Ic C.Wg)]∨X=#[NL (Ic C.Wg),wrE (Ic C.Wg)]∨X=semEvents (NN C.Wg))(u c):RI C.k C.Wg (t++MemOp.ofEvents C.k u c X) r:=by
 refine h.appOwn u c X (λe a=>?_) (λj e a=>?_);obtain rfl|rfl|rfl|rfl:=b<;>simp[semEvents,NL,wrE]at a;subst a;simp;subst a;simp;obtain rfl|rfl:=a<;>simp;grind;rw[d];obtain rfl|rfl|rfl|rfl:=b;match j,a with|0,a=>simp at a;subst a;exact qx ⟨⟨_,_,T,T⟩,by simp[xp]⟩
 match j,a with|0,a=>simp at a;subst a;exact qx ⟨⟨_,_,T,T⟩,by simp[xp]⟩
 match j,a with|0,a=>simp at a;subst a;exact qx ⟨⟨_,_,T,T⟩,by simp[xp]⟩|1,a=>simp at a;subst a;exact qx ⟨⟨_,_,T,T⟩,by simp[xp,NL]⟩
 match j,a with|0,a=>simp[semEvents]at a;subst a;exact zk T|1,a=>simp[semEvents]at a;subst a;exact qx ⟨⟨_,_,T,T⟩,by simp[xp,semEvents]⟩|2,a=>simp[semEvents]at a;subst a;exact qx ⟨⟨_,_,T,T⟩,by simp[xp,semEvents]⟩|3,a=>simp[semEvents]at a;subst a;exact zk T
def Xe(a)(b:a≠.qt){n}(h:W C.P vy (RG C.ty C.Wg) D0 (StB C a) n g w):Qx C a (n+1) (dfB a) g w:=zk ⟨b,T,n,T,h⟩
def Alh{P}(h:ky P g=jz)(a:R.status=.running∨R.status=.finished):(ky P g&&R.status != .blocked&&R.status != .waiting)=jz:=by grind
def Aov(O:C.Ok)(c:J2 C U tb I f a b h t)(j:b.status=.running):StepB C.P C.k a b h t λu b' w' S=>∃k,ZS k (Zq U+NM tb,I+2 * f)/\J C k u b' w' S:=by obtain⟨dB,y,P⟩:=c.3;have ab:=P;obtain⟨M,sm,i,l⟩:=c.2;obtain⟨H,rfl,n,rfl,v⟩|⟨rfl,A⟩:=P;rotate_left;(cases f with|zero=>rw[A.1]at j;cases j|succ m=>obtain⟨hf,_⟩|⟨_,R,es,o,e,X⟩:=A;grind;obtain⟨s,r,w,K⟩:=c.1;obtain⟨d,Q,W,Y⟩:=c.4.woken (P:=C.P) b R h;refine zk ⟨R,h,es,e h,_,.right (b₂:=I+2 * (m+1)) _ (show d+2 * m<I+2 * (m+1) by omega),qx ⟨U,.qt,d,m,T,⟨s,r,w,K⟩,⟨M,sm,i,l⟩,⟨_,?_,qx ⟨T,X⟩⟩,Y,λ_=>W (c.5 T),c.6,λa1=>?_⟩⟩;refine y.appB O.2 O.1 (.refl h) (λop G=>Cq G) (λop G x Z _=>?_) ?_ (λop G=>?_);exact X4y;rw[xr,y.6];obtain⟨g,N,rfl⟩:=xy G;exact low_mute (o g N) _;obtain⟨r,B⟩:=c.7 a1;refine⟨r,B.appOwn _ _ _ (λg N x=>?_) λT g N=>zk (touch_mute (o g (cN N)))⟩;have:=o g N;obtain⟨ad,wr,sy⟩:=g;simp only at x;subst x;simp[Event.mute]at this);obtain a6|⟨D,rfl,a7⟩:=v.cases;rotate_left;obtain⟨R,w1,es,a8,⟨rfl,rfl⟩,F⟩:=a7 h SP;obtain⟨d,Q,_,W⟩:=c.4.woken (P:=C.P) b R w1;refine zk ⟨R,_,_,a8,_,.right _ (show d+2 * (D+1)<I+2 * (D+1+1) by omega),qx ⟨U,tb,d,D+1,T,?_⟩⟩;rw[MC];exact { c with ti:=⟨_,y,zk ⟨H,rfl,D,rfl,F⟩⟩,sa:=W,nb:=λg=>absurd g H };have E:=a6 h SP;cases tb with|qt=>exact absurd T H|r0=>obtain⟨_,R,e,m,F⟩:=E;obtain⟨d,z⟩:=c.wgB O (tb':=.k1) (es:=#[Vj (.releaseMerge (Ic C.4))]) (λg N=>by simp at N;exact qx (qx (qx N))) (zk T) (by revert i;cases U<;>exact id) l H T (Xe .k1 Ae F) Apn ⟨_,RI.new y.6 _ _⟩;exact zk ⟨R,h,_,e,_,.left _ _ (dM (show NM .k1<NM .r0 by decide) _),qx ⟨U,.k1,d,m+1,T,z⟩⟩|k1=>obtain⟨_,R,e,m,F⟩:=E;obtain⟨r,B⟩:=c.7 Ae;obtain⟨d,z⟩:=c.wgB O (tb':=.d1) (b':=R) (es:=#[Vj .disable]) (λg N=>by simp at N;exact qx (zk N)) (zk T) (by revert i;cases U<;>exact id) l H T (Xe .d1 Ae F) Apn ⟨r,B.appOwn _ _ _ (λg N=>by simp at N;subst N;simp[Vj]) λT g N=>zk RV⟩;exact zk ⟨R,h,_,e,_,.left _ _ (dM (show NM .d1<NM .k1 by decide) _),qx ⟨U,.d1,d,m+1,T,z⟩⟩|d1=>obtain⟨_,hK,aa⟩:=E;obtain⟨r,B⟩:=c.7 Ae;(have:(M=KK/\sm=0/\Ki U .qt=je (0,0)/\U≠.wm/\U≠.w3)∨(M=KK+1/\sm=0/\Ki U .d2=je (1,0)):=by exact Gw0);obtain⟨rfl,rfl,L,p,n2⟩|⟨rfl,rfl,L⟩:=this;obtain⟨R,e,q,A⟩:=hK l;obtain⟨d,z⟩:=c.wgB O (tb':=.qt) (UE _) (qx ⟨_,_,T,T⟩) L (Ml l 0) H T (qx ⟨T,A⟩) (λ_ g=>g.elim (λg=>absurd g p) (λg=>absurd g n2)) ⟨r,Ym B y.6 (qx (qx (zk T))) _ _⟩;exact zk ⟨R,_,_,e,_,.left _ _ (dM (show NM .qt<NM .d1 by decide) _),qx ⟨U,.qt,d,q,T,z⟩⟩;obtain⟨R,e,m,F⟩:=aa l;obtain⟨d,z⟩:=c.wgB O (tb':=.d2) (UE _) (qx ⟨_,_,T,T⟩) L (Ml l 1) H T (Xe .d2 Ae F) Apn ⟨r,Ym B y.6 (qx (qx (zk T))) _ _⟩;exact zk ⟨R,_,_,e,_,.left _ _ (dM (show NM .d2<NM .d1 by decide) _),qx ⟨U,.d2,d,m+1,T,z⟩⟩|d2=>obtain⟨_,E⟩:=E;obtain⟨r,B⟩:=c.7 Ae;(have:M=1/\sm=0/\Ki U .d3=je (1,0):=by exact Gw0);obtain⟨rfl,rfl,L⟩:=this;obtain⟨R,e,m,F⟩:=E l;obtain⟨d,z⟩:=c.wgB O (tb':=.d3) (Ane _) (zk T) L l H T (Xe .d3 Ae F) Apn ⟨r,Ym B y.6 (zk T) _ _⟩;exact zk ⟨R,_,_,e,_,.left _ _ (dM (show NM .d3<NM .d2 by decide) _),qx ⟨U,.d3,d,m+1,T,z⟩⟩|d3=>obtain⟨_,E⟩:=E;obtain⟨r,B⟩:=c.7 Ae;(have:M=1/\sm=0/\Ki U .d4=je (0,0):=by exact Gw0);obtain⟨rfl,rfl,L⟩:=this;obtain⟨R,e,m,F⟩:=E ⟨_,l⟩;obtain⟨d,z⟩:=c.wgB O (tb':=.d4) (Anf _) (qx ⟨_,_,T,T⟩) L (Ml l 0) H T (Xe .d4 Ae F) Apn ⟨r,Ym B y.6 (qx (zk T)) _ _⟩;exact zk ⟨R,_,_,e,_,.left _ _ (dM (show NM .d4<NM .d3 by decide) _),qx ⟨U,.d4,d,m+1,T,z⟩⟩|d4=>obtain⟨_,E⟩:=E;obtain⟨r,B⟩:=c.7 Ae;(have:M=0/\sm=0/\Ki U .qt=je (0,1):=by exact Gw0);obtain⟨rfl,rfl,L⟩:=this;obtain⟨R,e,V,q,A⟩:=E ⟨_,l⟩;obtain⟨d,z⟩:=c.wgB O (tb':=.qt) (Ajs _) (qx ⟨_,_,T,T⟩) L (NG l 1) H T (qx ⟨T,A⟩) (λ_ _=>Alh V A.status) ⟨r,Ym B y.6 (qx (qx (qx T))) _ _⟩;exact zk ⟨R,_,_,e,_,.left _ _ (dM (show NM .qt<NM .d4 by decide) _),qx ⟨U,.qt,d,q,T,z⟩⟩
end
open Go.ConcN (sumTo upd sumTo_upd upd_ne upd_same)
section
variable {C:NO} {a b:gy} {c:Nat×Nat}
def ARc.again{cs c}(h:ARc C g w):ARc C { yn (core g) cs c with status:=.running } w:=
 have e:ui C.P jz _ w=ui C.P jz g w:=stepG_same T T T w
 let⟨_,z,a,b⟩:=h;⟨T,z,by exact a,b⟩
def Fin.at(O:C.Ok)(c:Fin C a b h t)(d):Fin C a b (h.at d) t:=⟨c.run,c.past,c.3,⟨(O.5 _ _ _).2 c.post.1,c.post.2.trans (.at _ _ _)⟩,c.shut⟩
def Jd.back(K:Nat->Obj->Prop)(w d):Jd K (w.at d) w:=⟨T,T,T,aA _,λ_ _ h _=>h,λ_ _ h _=>h⟩
def Fin.back(O:C.Ok)(d)(c:Fin C a b (h.at d) t):Fin C a b h t:=⟨c.run,c.past,c.3,⟨(O.5 _ _ _).1 c.post.1,c.post.2.trans (.back _ _ d)⟩,c.shut⟩
def J.at(O:C.Ok)(e)(d:J C c a b h t):J C c a b (h.at e) t:=by obtain⟨f,d⟩|⟨m,n,j,k,f,d⟩:=d;exact zk ⟨f,d.at O e⟩;have ⟨l,g,i⟩:=d.3;exact qx ⟨m,n,j,k,f,d.1,d.2,⟨l,g.at O e,i.rely id⟩,d.4.rely id,d.5,d.6.trans (.at _ _ _),d.7⟩
def J.mute(O:C.Ok){u o}(j:i≠0)(p:i≠C.k)(L:∀m∈X,Event.mute m=jz)(d:J C c a b h t):J C c a b h (t++MemOp.ofEvents i u o X):=by obtain⟨m,d⟩|⟨A,B,e,P,m,d⟩:=d;refine zk ⟨m,d.1,d.2.mute j L,?_,d.4,d.5⟩;rw[qw t p _ (λy T=>Cq T)];exact d.3;have ⟨s,l,k⟩:=d.3;refine qx ⟨A,B,e,P,m,d.1,d.2,⟨s,JW O l j p L _ _,k⟩,d.4,d.5,d.6,λq=>let⟨r,f⟩:=d.7 q;⟨r,f.appOther λy T=>?_⟩⟩;obtain⟨m,N,rfl⟩:=xy T;refine⟨p,λx=>?_⟩;have:=L m N;have ⟨n,wr,z⟩:=m;cases n with|mark g=>cases wr<;>cases z<;>simp[MemAct.ofEvent]at x<;>subst x<;>simp[Event.mute]at this|_=>simp[Event.mute]at this
def J.wake(O:C.Ok)(g R)(d:J C c a b h t):∃l,J C l (woken C.P g R h a) (woken C.P g R h b) h t:=by obtain⟨e,d⟩|⟨u,v,o,P,e,d⟩:=d;have ⟨n,q⟩:=d.3;refine⟨(0,0),zk ⟨T,?_⟩⟩;rwa[Ey (zk d.1),rz q];have ⟨p,j,f⟩:=d.3;obtain⟨k,_,i,m⟩:=d.4.woken g R h;refine⟨_,qx ⟨u,v,k,P,T,d.1,d.2,⟨p,j,?_⟩,m,λe=>i (d.5 e),d.6,d.7⟩⟩;rwa[f.woken]
def J.awake(d:J C c a b h t):awake a/\awake b/\(a.status=.running∨b.status=.running):=by (have e:∀{g},(g.3=.running∨g.3=.blocked∨g.3=.finished)->Conc.awake g:=λd t i=>by grind);obtain⟨i,d⟩|⟨s,u,q,P,i,d⟩:=d;obtain⟨n,l⟩:=d.3;exact⟨e (zk d.1),e (l.status.imp id qx),zk d.1⟩;obtain⟨r,p,j⟩:=d.3;obtain⟨f,o⟩|⟨f,m,_⟩:=d.4.status;exact⟨e (zk f),e (j.status.imp id λx=>qx x.1),zk f⟩;obtain k|⟨k,l⟩:=j.status;grind;exact absurd m (d.5 l)
def J.step(O:C.Ok)(d:J C c a b h t):Fin C a b h t∨((a.status=.running->StepA C.P C.k a b h t λl f B g=>∃e,ZS e c/\J C e l f B g)/\(b.status=.running->StepB C.P C.k a b h t λl f B g=>∃e,ZS e c/\J C e l f B g)):=by obtain⟨i,d⟩|⟨j,k,m,P,rfl,d⟩:=d;exact zk d;exact qx ⟨Aou O d,Aov O d⟩
end
open Go.ConcN (sumTo upd sumTo_upd upd_ne upd_same)
structure Lh(Shun:iH)(B d t):Prop where
 clean:∀said,¬Race said t
 known:∀i a,um t i=je a->a.loc.isMemory=jz->Knows t 0 i∨(Shun a.loc/\a.kind=.atomic)
 over:t.HandedOver
 hears:kj t 0=d
 seen:∀op∈t,op.act.low B
def Lh.of{p:iH}(h:Past p B t):Lh p B 0 t:=⟨h.clean,h.known,h.over,h.hears,h.seen⟩
def Lh.to{p}(h:Lh p B 0 t):Past p B t:=⟨h.clean,h.known,h.over,h.hears,h.seen⟩
def EvD(Shun:iH)(B:Nat)(e:Event):Prop:=(∀x,(MemAct.ofEvent e).touch? = je x->Shun x.loc->x.kind≠.plain)/\(MemAct.ofEvent e).low B
section
variable {G d:Nat}
def Lh.mono(h:Lh y B d t)(b:B<=G):Lh y G d t:=⟨h.clean,h.known,h.over,h.hears,λc a=>MemAct.low_mono b (h.seen c a)⟩
def Lh.own(h:Lh y B d t)(w:B<=G){a s X}(f:∀e∈X,EvD y G e):Lh y G (xp d X) (t++MemOp.ofEvents 0 a s X):=by refine⟨λj=>jk (h.1 j) (λg c=>Cq c) λi b q g c k m l=>?_,λi b q D=>?_,handedOver_app h.3 λg c=>zk (Cq c),by rw[xr,h.4],ud (λg c=>MemAct.low_mono w (h.5 g c)) λg c=>?_⟩;obtain z|⟨o,A⟩:=h.2 i b q l.2.1;exact z;obtain⟨e,n,rfl⟩:=xy c;have C:=(f e n).1 k m (l.1▸o);have ⟨_,_,_,p⟩:=l;grind;have ⟨x,u,E⟩:=vj q;obtain⟨_,F⟩|⟨_,L⟩:=getElem?_append_cases u;exact(h.2 i b (by rwa[touchAt_of F]) D).imp (·.app _) id;have:=knows_own u;rw[Cq L]at this;exact zk this;obtain⟨e,n,rfl⟩:=xy c;exact(f e n).2
def Lh.mute(h:Lh y B d t){g}(s:g≠0){a j}(p:∀e∈X,Event.mute e=jz):Lh y B d (t++MemOp.ofEvents g a j X):=by (have u:∀f∈MemOp.ofEvents g a j X,f.4.touch? = zt:=λf c=>by obtain⟨e,l,rfl⟩:=xy c;exact touch_mute (p e l));refine⟨λk=>jk (h.1 k) (λf c=>Cq c) λi b _ f c o z _=>Aj,λi b r m=>?_,handedOver_app h.3 λf c=>qx (u f c),(qw t s _ λf c=>Cq c).trans h.4,ud h.5 λf c=>by obtain⟨e,l,rfl⟩:=xy c;exact low_mute (p e l) B⟩;have ⟨x,v,q⟩:=vj r;obtain⟨_,n⟩|⟨_,w⟩:=getElem?_append_cases v;exact(h.2 i b (by rwa[touchAt_of n]) m).imp (·.app _) id;grind
end
def ZR(P:jd)(Post:iP)(m:Machine)(t:zq):Prop:=∃N last o w' t',runNT P (N+1) m t=(.ended o w',t')/\runN P N m=.next last/\step P last=.ended o w'/\Good P Post last o w' t'
def Ends(P:jd)(Post:iP)(Shun:iH)(d:Nat)(g:E)(w:Z):Prop:=
 ∀gs sl t (q:Nat->Nat),gs[0]?=je g->Leavers P t gs q->Lh Shun w.1.size d t->ZR P Post (xj gs w sl) t
section
variable {P:jd} {d:Nat}
def ZR.cons{m a t u}(c:stepT P m=(.next a,u))(h:ZR P Y a (t++u)):ZR P Y m t:=
 let⟨N,l,o,B,b,x,y,z⟩:=h
 ⟨N+1,l,o,B,b,by rwa[runNT_succ_next c],by rwa[runN_succ_next c],z⟩
def Ends.pick(b:m.status=.running)(h:∀n r sl t (q:Nat->Nat),r[0]?=je m->Leavers P t r q->Lh y w.1.size d t->∃c u,runT P (xj r (w.at n) sl) 0=(.next c,u)/\ZR P Y c (t++u)):Ends P Y y d m w:=by suffices H:∀M r n sl t (q:Nat->Nat),sumTo r.size q<=M->r[0]?=je m->Leavers P t r q->Lh y w.1.size d t->ZR P Y (xj r (w.at n) sl) t from λr sl t q J A a=>H _ r w.3 sl t q (aA _) J A a;intro M;induction M using Nat.strongRecOn with|_ M e=>intro r C sl t q p J A a;(have V:∀x∈r,awake x:=by intro x G;obtain⟨i,B,rfl⟩:=Array.mem_iff_getElem.1 G;obtain rfl|O:=eJ i;have:r[0]=m:=Aj;rw[this];exact awake_of (zk b);exact awake_of ((A.1 i _ O (aN B)).status.elim zk λx=>qx (qx x)));obtain⟨i,x,n,v,B,G,F⟩:=crowd_pick (P:=P) (w:=w.at C) (sl:=sl) V ⟨0,m,J,b⟩;have g:(w.at C).at n=w.at n:=T;rw[g]at F;obtain rfl|O:=eJ i;obtain⟨c,u,k,E⟩:=h n r v t q J A a;exact .cons (F.trans k) E;have D:=A.1 i x O B;have X:(i==0)=vy:=Ai;have R:i<r.size:=(aJ.1 B).1;cases W:q i with|zero=>rw[W]at D;rw[D.1]at G;cases G|succ o=>rw[W]at D;obtain⟨I,_⟩|⟨_,g',z,L,l,K⟩:=D;rw[I]at G;cases G;(have f:sumTo r.size (upd q i o)+(o+1)=sumTo r.size q+o:=by have:=sumTo_upd q o id R;simpa[W] using this);have S:((r.map (woken P x g' (w.at n))).setIfInBounds i g').size=r.size:=Ae;exact .cons (F.trans (vw (P:=P) (sl:=v) (i:=i) B (X▸l (w.at n)))) (e (sumTo r.size (upd q i o)) Aa _ n v _ (upd q i o) (S▸aA _) (by rw[aE Aa,aM,J];simp[woken_run b]) ⟨λj N s Z=>by by_cases u:i=j;exact Ntf;rw[aE u,aM]at Z;obtain⟨E,U,rfl⟩:=bA.1 Z;have aq:=A.1 j E s U;rwa[rz aq,upd_ne q o (dH u),qw t u _ Apo],λj s=>by rw[qw t (g':=i) (by simp at s;omega) _ Apo];exact A.2 j (by simpa using s)⟩ (a.mute Aa L))
theorem Ends.step(b:m.status=.running)(h:∀n,∃g' B X,stepG P true m (w.at n)=.go g' B X∧w.heap.size≤B.heap.size∧(∀e∈X,EvD y B.heap.size e)∧Ends P Y y (deafBehind d X) g' B):Ends P Y y d m w:=Ends.pick b fun n r v t q J A a=>by obtain⟨g',B,X,hs,G,W,c⟩:=h n;have O:0<r.size:=(Array.getElem?_eq_some_iff.1 J).1;exact⟨_,_,runT_crowd_go J hs,c ((r.map (woken P m g' B)).setIfInBounds 0 g') v (t++MemOp.ofEvents 0 m.1.1 m.1.place X) q (by simp [O]) ⟨fun j g s I=>by rw [Array.getElem?_setIfInBounds_ne (by omega),Array.getElem?_map] at I;obtain⟨z,Z,rfl⟩:=Option.map_eq_some_iff.1 I;have D:=A.1 j z s Z;rwa [woken_quitsD D,Deaf_other t (by omega) _ (fun op f=>Cq f)],fun j s=>by rw [Deaf_other t (g':=0) (by simp at s;omega) _ (fun op f=>Cq f)];exact A.2 j (by simpa using s)⟩ (a.own G W)⟩
def Ends.ret(a:m.status=.running)(h:∀n,∃v X,ui P jz m (w.at n)=.ended (.done v) (w.at n) X/\(∀e∈X,EvL y w.1.size e)/\Y v (w.at n)):Ends P Y y 0 m w:=by intro r G t q d k l;refine beside_ends (D:=λ_ _ _=>False) (n:=0) (λ_ _ _ x=>x.elim) d k l.to λc b=>?_;obtain⟨n,rfl⟩:=b;have ⟨v,X,f,i,j⟩:=h n;exact⟨a,v,X,f,i,j⟩
def Ends.goes{D:Z->Z->Array Event->Prop}{a:gy->Z->Prop}(i:∀w B X,D w B X->iZ w.1<=iZ B.1/\∀e∈X,EvL y B.1.size e)(f:∀g w,a g w->Ends P Y y d g w):∀{n} {g} {w},gz P jz z8 D a n g w->Ends P Y y d g w
 |0,g,w,h=>f g w (h w (lz w))|n+1,g,w,h=>by obtain h|⟨m,h⟩:=h;exact f g w (h w (lz w));refine Ends.step m λk=>?_;have:=h _ ⟨k,T⟩;have ⟨R,B,X,e,j,l⟩:=goes_elim this;have ⟨o,c⟩:=i _ _ _ j;refine⟨R,B,X,e,o,λe b=>⟨(c e b).1,(c e b).2.2.2⟩,?_⟩;rw[deafBehind_still λe b=>⟨(c e b).2.1,(c e b).2.2.1⟩];exact Ends.goes i f l
end
open Go.ConcN (sumTo upd sumTo_upd upd_ne upd_same)
section
variable {P:jd} {d:Nat}
def Ak9{C:NO}{t}(O:0<C.k)(p:Past C.Shun w.1.size t)(H:kj t C.k=0)(fn f k d):C.TI (t++#[({ g:=0,fn:=fn,pos:=k,act:=.go C.k }:MemOp),{ g:=C.k,fn:=f,pos:=d,act:=.start }]) w 0 0:=by
 have r:∀l∈(#[({ g:=0,fn:=fn,pos:=k,act:=.go C.k }:MemOp),{ g:=C.k,fn:=f,pos:=d,act:=.start }]:zq),l.4.touch? = zt/\(∀z,l.4≠.mark z)/\l.4.low w.1.size:=λl c=>by simp at c;obtain rfl|rfl:=c<;>exact⟨T,Ae,trivial⟩
 have b:(t++#[({ g:=0,fn:=fn,pos:=k,act:=.go C.k }:MemOp),{ g:=C.k,fn:=f,pos:=d,act:=.start }])[t.size]?=je { g:=0,fn:=fn,pos:=k,act:=.go C.k }:=Ae;have v:(t++#[({ g:=0,fn:=fn,pos:=k,act:=.go C.k }:MemOp),{ g:=C.k,fn:=f,pos:=d,act:=.start }])[t.size+1]?=je { g:=C.k,fn:=f,pos:=d,act:=.start }:=by grind
 have o:∀i a,um (t++#[({ g:=0,fn:=fn,pos:=k,act:=.go C.k }:MemOp),{ g:=C.k,fn:=f,pos:=d,act:=.start }]) i=je a->um t i=je a:=λi a q=>by obtain⟨x,u,E⟩:=vj q;obtain⟨_,F⟩|⟨_,L⟩:=getElem?_append_cases u;rwa[touchAt_of F];grind
 have n:jj (t++#[({ g:=0,fn:=fn,pos:=k,act:=.go C.k }:MemOp),{ g:=C.k,fn:=f,pos:=d,act:=.start }]) t.size (t.size+1):=by refine .single (qx ⟨.spawn (child:=C.k) (by rw[act?_of b]) (by rw[act?_of v]) (by simp[xd,v,aI]),⟨0,by simp[xd,b,aI],zm (aA _)▸p.4⟩,⟨C.k,by simp[xd,v,aI],?_⟩⟩);rw[deaf_succ b,zm (aA _)];show deafStep C.k (kj t C.k) _=0;rw[H];rfl
 refine⟨λs=>?_,λi a q D=>?_,λi a q D=>?_,Ry (λi g J A _ y=>p.3 i g J A y) λl c=>qx (qx (r l c).1),(Go.ConcN.Deaf_still t 0 _ λl c=>⟨(r l c).2.1 .disable,(r l c).2.1 .enable⟩).trans p.4,(Go.ConcN.Deaf_still t C.k _ λl c=>⟨(r l c).2.1 .disable,(r l c).2.1 .enable⟩).trans H,ud p.5 λl c=>(r l c).2.2⟩;rintro⟨i,j,B,⟨a,m,q,I,y⟩,M,N⟩;exact p.1 s ⟨i,j,B,⟨a,m,o i a q,o j m I,y⟩,λe=>M (q9 _ e),λe=>N (q9 _ e)⟩;obtain h|h:=p.2 i a (o i a q) D;exact zk (h.app _);exact qx (zk h);obtain h|h:=p.2 i a (o i a q) D;exact zk ⟨t.size+1,_,v,T,qx ((h.hb_new (aA _) b T).trans n)⟩;exact qx (zk h)
end
open Go.ConcX.Gen Go.RowKit Go.Conc.Lib
def Ev.c0{I a b}(h:Ev I a w b sm):w.cell? (Ic a)=je (wy .u64 b):=by rw[Ev]at h;simp[yg,Ic,NF,h]
def Fi.cell0{I a}(h:Fi I a w):∃v,w.cell? (iQ a)=je v:=let⟨b,sm,x⟩:=h;⟨_,x.c0⟩
variable {C:NO}
noncomputable def Sq(L:xq):Code:=(addFn L).body.getD .skip
noncomputable def OE(L:xq):Code:=(doneFn L).body.getD .skip
end Go.Pair
namespace Go.Pair
variable {D:Z->Z->Array Event->Prop}{K:Nat->Obj->Prop}{X:Array Event}{cs:List Frame}
open Go Go.Conc
def FJ(w w':Z):Prop:=w'.os=w.os/\w'.output=w.output
open Go.ConcX.Gen Go.RowKit Go.Conc.Lib
variable {C:NO}
def Aw{I b}(h:Fi I q w)(r:RG I q w b):=r h
def Fi.cell1{I a}(h:Fi I a w):∃v,w.cell? (iR a 1)=je v:=by have ⟨b,sm,x⟩:=h;rw[Ev]at x;exact⟨wy .u32 sm,by simp[yg,NF,x]⟩
noncomputable def BV(L:xq):Code:=(waitFn L).body.getD .skip
def Arx(H:WgLib C.P L)(v:C.ty=L.30){b₀:Frame}{a₀}{ops₀}{i₀}{rest₀:iO}{k₀}{cs}(w)(p:Fi C.ty C.Wg w)(m:∀R K,R.status=.running->(∃n,gz C.P jz z8 D0 (λg _=>g=G (b₀.at (a₀.put ((ops₀[i₀]?).bind (·.dst)) (gq #[])) (.inRegion ops₀ rest₀::k₀)) cs) n R K)->C.11 R K):gz C.P jz (RG C.ty C.Wg) D0 (AKd C) 100 (G ((base L.wait).at ⟨#[HZ C.Wg]++Array.replicate ((waitFn L).7 - 1) undef,[]⟩ [.code (BV L)]) (b₀.at a₀ (.inRegion ops₀ (i₀::rest₀)::k₀)::cs)) w:=by lib_facts;simp[BV,waitFn,bT,Nat.reduceSub,dL,dW,eQ,eD,bU,cS];(have e:∀{w} {st sm},Ev C.6 C.4 w st sm->w.cell? (iQ C.4)=je (wy .u64 st)/\w.frozen? (iQ C.4)=vy/\w.cell? (iR C.4 1)=je (wy .u32 sm)/\w.frozen? (iR C.4 1)=vy:=λh=>by exact O90);u_c mj Aw p;u_cond jz Aw p;u_reg Aw p;refine uo (λK U=>?_);replace p:=Aw p U;clear U;refine⟨iW,_,stepG_mark0 .disable Ae iW iW (by k_ne) iW H.5 (x_disable_n L) (x_disable_b L) (x_disable_x L) (x_disable_f L),100,?_⟩;walk_nrm;u_c zg Aw p;u_c stepG_block Aw p;u_c stepG_loop Aw p;u_c stepG_block Aw p;u_c mj Aw p;u_reg Aw p;u_op Aw p;u_op Aw p;u_op Aw p;u_call H.13 (nm_uLoad L) uLoadFn Aw p;u_c mj Aw p;u_reg Aw p;u_op Aw p;u_c zg Aw p;u_c mj Aw p;u_reg Aw p;u_op Aw p;u_op Aw p;u_op Aw p;refine uo (λK U=>?_);replace p:=Aw p U;clear U;refine⟨iW,λW=>?_,λW=>?_⟩;refine⟨_,stepG_load_atomic iW iW (by k_ne) iW H.24 (x_loadU64_n L) (x_loadU64_b L) (x_loadU64_x L) .u64 (x_loadU64_f L) iW (e W).1,200,?_⟩;clear W;walk_nrm;u_op Aw p;u_c zg Aw p;u_c mo Aw p;u_leave1 H.13 Aw p;u_op Aw p;u_c zg Aw p;u_c mj Aw p;u_reg Aw p;u_op Aw p;u_op Aw p;u_op Aw p;u_op Aw p;u_c zg Aw p;u_c mj Aw p;u_reg Aw p;u_op Aw p;u_op Aw p;u_op Aw p;u_op Aw p;u_c zg Aw p;u_c mj Aw p;u_c mj Aw p;u_reg Aw p;u_op Aw p;u_op Aw p;u_c zg Aw p;u_cond vy Aw p;u_c ju Aw p;u_c mj Aw p;u_reg Aw p;u_op Aw p;u_op Aw p;u_op Aw p;u_op Aw p;u_op Aw p;u_op Aw p;u_call H.19 (nm_uCas L) uCasFn Aw p;u_c mj Aw p;u_reg Aw p;u_op Aw p;u_c zg Aw p;u_c mj Aw p;u_reg Aw p;u_op Aw p;u_op Aw p;u_op Aw p;u_op Aw p;u_op Aw p;refine uo (λj D=>?_);replace p:=Aw p D;clear D;refine⟨iW,λW=>?_,λW=>?_⟩;refine⟨_,stepG_cas_hit iW iW (by k_ne) iW H.26 (x_casU64_n L) (x_casU64_b L) (x_casU64_x L) .u64 (x_casU64_f L) iW iW iW (e W).1 (e W).2.1,200,?_⟩;replace p:=(⟨_,_,Ml W (KK+1)⟩:Fi _ _ _);clear W;walk_nrm;u_op Aw p;u_c zg Aw p;u_c mo Aw p;u_leave1 H.19 Aw p;u_c zg Aw p;u_cond jz Aw p;u_c mj Aw p;u_c mj Aw p;u_reg Aw p;u_op Aw p;u_op Aw p;u_op Aw p;u_op Aw p;u_c zg Aw p;u_cond jz Aw p;u_reg Aw p;u_op Aw p;u_op Aw p;u_op Aw p;u_in Aw p;refine goes_oper_k iW iW (by k_ne) (λN M=>?_);have E:=run_convert_to_unsafe (P:=C.P) H.67 H.32 H.113 (Fi.cell1 p).choose_spec;have J:=λX=>we (P:=C.P) H.67 H.32 H.113 (Fi.cell1 p).choose_spec X;go_simp;refine M _ _ ⟨?_,?_⟩;exact Qr8;clear M N E J;refine uo (λi T=>?_);replace p:=Aw p T;clear T;refine⟨iW,_,stepG_markAt .write Ae iW iW (by k_ne) iW H.20 (x_raceWrite_n L) (x_raceWrite_b L) (x_raceWrite_x L) (x_raceWrite_f L) Aip,200,?_⟩;walk_nrm;u_c zg Aw p;u_c mj Aw p;u_reg Aw p;u_op Aw p;u_c zg Aw p;u_c mj Aw p;u_c mj Aw p;u_reg Aw p;u_op Aw p;u_op Aw p;u_op Aw p;u_op Aw p;u_skip Aw p;u_op Aw p;u_c zg Aw p;u_cond vy Aw p;u_c ju Aw p;u_c mj Aw p;u_reg Aw p;u_op Aw p;u_op Aw p;u_op Aw p;u_op Aw p;refine uo (λk a=>?_);replace p:=Aw p a;clear a;refine⟨iW,iW,fun⟨st,W⟩=>?_,λW=>?_⟩;exact stepG_semacquire_wait iW iW iW H.21 (x_semacquire_n L) (x_semacquire_b L) (x_semacquire_x L) (x_semacquire_f L) Kx (e W).2.2.1;refine⟨_,stepG_semacquire iW iW (by k_ne) iW H.21 (x_semacquire_n L) (x_semacquire_b L) (x_semacquire_x L) (x_semacquire_f L) Aip (e W).2.2.1 Ad (e W).2.2.2,200,?_⟩;replace p:=(⟨_,_,NG W 0⟩:Fi _ _ _);clear W;walk_nrm;u_c zg Aw p;u_c mj Aw p;u_reg Aw p;u_op Aw p;u_op Aw p;u_op Aw p;u_call H.13 (nm_uLoad L) uLoadFn Aw p;u_c mj Aw p;u_reg Aw p;u_op Aw p;u_c zg Aw p;u_c mj Aw p;u_reg Aw p;u_op Aw p;u_op Aw p;u_op Aw p;refine uo (λl c=>?_);replace p:=Aw p c;clear c;refine⟨iW,λW=>?_⟩;refine⟨_,stepG_load_atomic iW iW (by k_ne) iW H.24 (x_loadU64_n L) (x_loadU64_b L) (x_loadU64_x L) .u64 (x_loadU64_f L) iW (e W).1,200,?_⟩;clear W;walk_nrm;u_op Aw p;u_c zg Aw p;u_c mo Aw p;u_leave1 H.13 Aw p;u_op Aw p;u_op Aw p;u_c zg Aw p;u_c mj Aw p;u_cond jz Aw p;u_c mj Aw p;u_reg Aw p;refine uo (λd B=>?_);replace p:=Aw p B;clear B;refine⟨iW,_,stepG_mark0 .enable Ae iW iW (by k_ne) iW H.6 (x_enable_n L) (x_enable_b L) (x_enable_x L) (x_enable_f L),50,?_⟩;walk_nrm;u_c zg Aw p;u_reg Aw p;u_op Aw p;u_in Aw p;refine goes_oper_k iW iW (by k_ne) (λN M=>?_);refine Yx3 λE J=>?_;refine M _ _ ⟨?_,?_⟩;exact Qr8;clear M N E J;refine uo (λf F=>?_);replace p:=Aw p F;clear F;refine⟨iW,_,stepG_markAt .acquire Ae iW iW (by k_ne) iW H.17 (x_acquire_n L) (x_acquire_b L) (x_acquire_x L) (x_acquire_f L) Aiq,iW,m _ _ iW ⟨60,?_⟩⟩;walk_nrm;have S:True:=trivial;clear p;u_c zg (fun(h:True) (_:z8 _ _)=>h) S;u_c mj (fun(h:True) (_:z8 _ _)=>h) S;u_c mj (fun(h:True) (_:z8 _ _)=>h) S;u_reg (fun(h:True) (_:z8 _ _)=>h) S;u_op (fun(h:True) (_:z8 _ _)=>h) S;u_c zg (fun(h:True) (_:z8 _ _)=>h) S;u_cond vy (fun(h:True) (_:z8 _ _)=>h) S;u_c ju (fun(h:True) (_:z8 _ _)=>h) S;u_c mo (fun(h:True) (_:z8 _ _)=>h) S;u_leave0 H.3 (fun(h:True) (_:z8 _ _)=>h) S;exact uo (λ_ _=>rfl);refine⟨_,stepG_cas_miss iW iW (by k_ne) iW H.26 (x_casU64_n L) (x_casU64_b L) (x_casU64_x L) .u64 (x_casU64_f L) iW iW iW (e W).1 (e W).2.1 Ad,200,?_⟩;clear W;walk_nrm;u_op Aw p;u_c zg Aw p;u_c mo Aw p;u_leave1 H.19 Aw p;u_c zg Aw p;u_cond vy Aw p;u_c ju Aw p;u_c stepG_inBlock Aw p;u_c stepG_inLoop Aw p;u_c stepG_block Aw p;u_c mj Aw p;u_reg Aw p;u_op Aw p;u_op Aw p;u_op Aw p;u_call H.13 (nm_uLoad L) uLoadFn Aw p;u_c mj Aw p;u_reg Aw p;u_op Aw p;u_c zg Aw p;u_c mj Aw p;u_reg Aw p;u_op Aw p;u_op Aw p;u_op Aw p;refine uo (λi T=>?_);replace p:=Aw p T;clear T;exact⟨iW,λW=>Fsy⟩;exact Fsy
end Go.Pair
namespace Go.Pair
variable {D:Z->Z->Array Event->Prop}{K:Nat->Obj->Prop}{X:Array Event}{cs:List Frame}{o:Obj}{y:iH}
open Go Go.Conc Go.ConcX.Gen Go.RowKit Go.Conc.Lib
section
variable {P:jd}
variable (P) (b:Nat) (I:uy) (a:gy)
def PEn(g:E)(w:Z):Prop:=g.status=.running/\∃g',F P jz g w=.go g' w #[Vj .enable]/\∃n,W P jz z8 D0 (λg _=>g=a) n g' w
def PRd(g:E)(w:Z):Prop:=g.status=.running/\∃g',F P jz g w=.go g' w #[Vj (.read (NN b))]/\∃n,W P jz z8 D0 (PEn P a) n g' w
def PAd(g:E)(w:Z):Prop:=g.status=.running/\∃g',F P jz g w=.go g' (w.setCell (Ic b) (wy .u64 KK)) #[NL (Ic b),wrE (Ic b)]/\∃n,W P jz z8 D0 (PRd P b a) n g' (w.setCell (Ic b) (wy .u64 KK))
def PDi(g:E)(w:Z):Prop:=g.status=.running/\∃g',F P jz g w=.go g' w #[Vj .disable]/\∃n,W P jz z8 D0 (PAd P b a) n g' w
end
def A6{I b c a}(h:Ev I b w c sm)(r:z8 w a):Ev I b a c sm:=by obtain⟨d,rfl⟩:=r;exact h
def Amr{P}(H:WgLib P L){d}{g:Frame}{f a j}{c:iO}{k cs}(w)(hF:Ev L.30 d w 0 0):W P jz z8 D0 (PDi P d (G (g.at (f.put ((a[j]?).bind (·.dst)) (gq #[])) (.inRegion a c::k)) cs)) 100 (G ((base L.add).at ⟨#[HZ d,iS 1]++Array.replicate 115 undef,[]⟩ [.code (Sq L)]) (g.at f (.inRegion a (j::c)::k)::cs)) w:=by lib_facts;simp[Sq,addFn,bT,dL,dW,eQ,eD,bU,cS];(have e:∀{w} {u sm},Ev L.30 d w u sm->w.cell? (iQ d)=je (wy .u64 u)/\w.frozen? (iQ d)=vy/\w.cell? (iR d 1)=je (wy .u32 sm)/\w.frozen? (iR d 1)=vy:=λh=>by exact O90);u_c mj A6 hF;u_cond jz A6 hF;u_c mj A6 hF;u_c mj A6 hF;u_reg A6 hF;u_op A6 hF;u_op A6 hF;u_c zg A6 hF;u_cond vy A6 hF;u_c ju A6 hF;u_c mj A6 hF;u_reg A6 hF;refine uo (λl U=>?_);replace hF:=A6 hF U;clear U;refine⟨T,_,stepG_mark0 .disable Ae T T (by k_ne) T H.5 (x_disable_n L) (x_disable_b L) (x_disable_x L) (x_disable_f L),100,?_⟩;walk_nrm;u_c zg A6 hF;u_reg A6 hF;u_defer A6 hF;u_c zg A6 hF;u_c mj A6 hF;u_reg A6 hF;u_op A6 hF;u_c zg A6 hF;u_c mj A6 hF;u_c mj A6 hF;u_reg A6 hF;u_bub A6 hF;u_c zg A6 hF;u_cond vy A6 hF;u_c ju A6 hF;u_c mj A6 hF;u_reg A6 hF;u_op A6 hF;u_op A6 hF;u_op A6 hF;u_op A6 hF;u_op A6 hF;u_op A6 hF;u_call H.11 (nm_uAdd L) uAddFn A6 hF;u_c mj A6 hF;u_reg A6 hF;u_op A6 hF;u_c zg A6 hF;u_c mj A6 hF;u_reg A6 hF;u_op A6 hF;u_op A6 hF;u_op A6 hF;u_op A6 hF;refine uo (λl U=>?_);replace hF:=A6 hF U;clear U;have F:IntKind.u64.wrap (0+4294967296)=KK:=Ad;refine⟨T,_,(stepG_add_atomic T T (by k_ne) T H.23 (x_addU64_n L) (x_addU64_b L) (x_addU64_x L) .u64 (x_addU64_f L) T T (e hF).1 (e hF).2.1).trans (by rw[F];rfl),200,?_⟩;replace hF:Ev L.30 d (l.setCell (Ic d) (wy .u64 KK)) KK 0:=Ml hF KK;rw[KK]at hF⊢;walk_nrm;u_op A6 hF;u_c zg A6 hF;u_c mo A6 hF;u_leave1 H.11 A6 hF;u_op A6 hF;u_c zg A6 hF;u_c mj A6 hF;u_c mj A6 hF;u_reg A6 hF;u_op A6 hF;u_op A6 hF;u_op A6 hF;u_op A6 hF;u_skip A6 hF;u_skip A6 hF;u_op A6 hF;u_c zg A6 hF;u_cond vy A6 hF;u_c ju A6 hF;u_c mj A6 hF;u_reg A6 hF;u_op A6 hF;u_op A6 hF;u_op A6 hF;u_op A6 hF;u_c zg A6 hF;u_c mj A6 hF;u_reg A6 hF;u_op A6 hF;u_op A6 hF;u_op A6 hF;u_op A6 hF;u_c zg A6 hF;u_c mj A6 hF;u_c mj A6 hF;u_reg A6 hF;u_op A6 hF;u_op A6 hF;u_op A6 hF;u_op A6 hF;u_op A6 hF;u_op A6 hF;u_op A6 hF;u_op A6 hF;u_op A6 hF;u_op A6 hF;u_c zg A6 hF;u_cond jz A6 hF;u_reg A6 hF;u_op A6 hF;u_op A6 hF;u_op A6 hF;u_in A6 hF;refine goes_oper_k T T (by k_ne) (λN M=>?_);have E:=run_convert_to_unsafe (P:=P) H.67 H.32 H.113 (e hF).2.2.1;have n:=λX=>we (P:=P) H.67 H.32 H.113 (e hF).2.2.1 X;go_simp;refine M _ _ ⟨?_,?_⟩;u_none;intro Y r;have s:=mem_listed r;simp[go_sem,n]at s;clear M N E n;refine uo (λv i=>?_);replace hF:=A6 hF i;clear i;refine⟨T,_,stepG_markAt .read Ae T T (by k_ne) T H.12 (x_raceRead_n L) (x_raceRead_b L) (x_raceRead_x L) (x_raceRead_f L) Aip,100,?_⟩;walk_nrm;u_c zg A6 hF;u_c mj A6 hF;u_c mj A6 hF;u_reg A6 hF;u_op A6 hF;u_op A6 hF;u_c zg A6 hF;u_cond vy A6 hF;u_c ju A6 hF;u_c mj A6 hF;u_c mj A6 hF;u_reg A6 hF;u_op A6 hF;u_op A6 hF;u_op A6 hF;u_skip A6 hF;u_skip A6 hF;u_op A6 hF;u_op A6 hF;u_skip A6 hF;u_skip A6 hF;u_skip A6 hF;u_skip A6 hF;u_op A6 hF;u_c zg A6 hF;u_cond vy A6 hF;u_c ju A6 hF;u_c mj A6 hF;u_c mj A6 hF;u_reg A6 hF;u_op A6 hF;u_op A6 hF;u_op A6 hF;u_skip A6 hF;u_skip A6 hF;u_op A6 hF;u_c zg A6 hF;u_cond jz A6 hF;u_c mo A6 hF;refine uo (λb o=>?_);refine⟨T,_,stepG_unwind_entry (v:=gq #[]) (evs:=#[Vj .enable]) T H.6 (x_enable_n L) (x_enable_b L) (x_enable_x L) (x_enable_f L) (by simp[Extern.Race.none_]) (by simp[Vj]) (λx t=>by simp at t;subst t;simp[Vj]),20,?_⟩;have S:True:=trivial;clear hF o;u_leave0 H.1 (fun(h:True) (_:z8 _ _)=>h) S;exact uo (λ_ _=>rfl)
def Ends.goesA{P p d}{b:gy->Z->Prop}{a}(f:∀g w,z8 a w->(∀e,z8 w e->b g e)->Ends P Y p d g w):∀{n} {g} {w},z8 a w->gz P jz z8 D0 b n g w->Ends P Y p d g w
 |0,g,w,c,h=>f g w c h|n+1,g,w,c,h=>by obtain h|⟨j,h⟩:=h;exact f g w c h;refine Ends.step j λk=>?_;have:=h _ ⟨k,T⟩;obtain⟨R,B,X,i,⟨rfl,rfl⟩,l⟩:=goes_elim this;exact⟨R,w.at k,#[],i,aA _,Ae,Ends.goesA f (atRel_trans _ _ _ c ⟨k,T⟩) l⟩
section
variable {P:jd} {Wg:Nat} {Ret:gy}
def OS{m}(h:(MemAct.mark m).touch? = zt)(c:(MemAct.mark m).low B):EvD y B (Vj m):=⟨(λx b=>by rw[Ob,h]at b;cases b),c⟩
def Aeu{a wr}(h:a.block<B):EvD y B ⟨.cell a,wr,jz⟩:=⟨λx b _=>by simp[Nk,MemAct.touch?,aU]at b;subst b;simp,h⟩
def Ajq(i:∀B,z8 w B->Ends P Y y 0 Ret B)(h:∀a,z8 w a->PEn P Ret m a):Ends P Y y 1 m w:=by refine Ends.step (h w (lz w)).1 λn=>?_;have ⟨_,R,j,e,f⟩:=h _ ⟨n,T⟩;refine⟨R,w.at n,_,j,aA _,λg c=>?_,(Ends.goesA (λm B d b=>b B (lz B)▸i B d) ⟨n,T⟩ f)⟩;simp at c;subst c;exact OS T trivial
def Ajr(o:Wg<iZ w.1)(l:∀B,z8 w B->Ends P Y y 0 Ret B)(h:∀a,z8 w a->PRd P Wg Ret m a):Ends P Y y 1 m w:=by refine Ends.step (h w (lz w)).1 λn=>?_;have ⟨_,R,j,e,f⟩:=h _ ⟨n,T⟩;refine⟨R,w.at n,_,j,aA _,λg c=>?_,(Ends.goesA (λm B d b=>Ajq (λk p=>l k (atRel_trans _ _ _ d p)) b) ⟨n,T⟩ f)⟩;simp at c;subst c;refine⟨λx i _=>?_,o⟩;simp[Ob,MemAct.touch?,aU]at i;subst i;simp
def Aes(i:Wg<iZ w.1)(o:∀B,z8 (w.setCell (Ic Wg) (wy .u64 KK)) B->Ends P Y y 0 Ret B){n}(h:W P jz z8 D0 (PDi P Wg Ret) n m w):Ends P Y y 0 m w:=by refine Ends.goesA (a:=w) (λm B b a=>?_) (lz w) h;obtain⟨p,rfl⟩:=b;refine Ends.step (a _ (lz _)).1 λn=>?_;obtain⟨_,R,j,e,f⟩:=a _ ⟨n,T⟩;refine⟨R,_,_,j,aA _,λg c=>?_,?_⟩;simp at c;subst c;exact OS T trivial;refine Ends.goesA (a:=w) (d:=1) (λm B b a=>?_) ⟨n,T⟩ f;obtain⟨q,rfl⟩:=b;refine Ends.step (a _ (lz _)).1 λn=>?_;obtain⟨_,R,j,e,f⟩:=a _ ⟨n,T⟩;refine⟨R,_,_,j,by rw[Sc];exact aA _,λg c=>?_,?_⟩;simp at c;obtain rfl|rfl:=c;exact Aeu (by rwa[Sc]);exact Aeu (by rwa[Sc]);refine Ends.goesA (a:=w.setCell (Ic Wg) (wy .u64 KK)) (d:=1) (λm B b a=>?_) ⟨n,T⟩ f;refine Ajr (w:=B) ?_ (λk d=>o k (atRel_trans _ _ _ b d)) a;obtain⟨r,rfl⟩:=b;show Wg<(w.setCell _ _).1.size;rwa[Sc]
end
def EA(P:jd)(Post:iP)(Shun:iH)(g:E)(w:Z):Prop:=∀d,Ends P (λv w'=>FJ w w'/\Post v w') Shun 0 g (w.at d)
section
variable {P:jd} {d:Z} {n:Nat}
def EA.ends(a:EA P Y y m h):Ends P (λv d=>FJ h d/\Y v d) y 0 m h:=a h.drawn
end
def EA.run{P}(h:EA P Y iV g w):∃N a o B c,runNT P (N+1) (solo g w) #[]=(.ended o B,c)/\runN P N (solo g w)=.next a/\step P a=.ended o B/\Conc.Good P (λv B=>FJ w B/\Y v B) a o B c:=by refine h.ends #[g] zt #[] (λ_=>0) T ⟨λi x d e=>?_,λj _=>rfl⟩ ((Lh.of past_nil).mono (bB _));grind
section
variable {H:Type} {P:uy×O->H}
end
def P9{p s c}(f u)(q:c.program=p.name/\c.sum=p.sum/\c.spec=s.name)(r:c.start=.entering/\c.outside = []/\c.inits = []/\c.under=zt/\c.28=vy/\c.followed=zt/\c.still=vy)(C:c.23 = []/\c.24=vy/\c.25=vy/\c.26 = []/\c.27 = [])(k:c.leaving=jz)(t:c.narrowed=s.cond.isSome)(B:p.checked.prog.funcNamed c.func=je f)(I:p.checked.prog.funcs[f]?=je u)(d:joinedFacts p.checked.prog f u s.bare c=jz)(m:u.isInstance p.checked.prog c.origin c.targs)(o:u.isWrapper p.checked.prog c.wrapper c.8)(v:∀g:Os,g.Started->∀H(P:uy×p8->H),∀F:Stop.Interp,ReturnsInLeavingWide c.assume p.checked g f .any (c.pre P p.checked.prog u s) ((s.at F).post P p.checked.prog u c.apart c.fresh c.handsOn c.again)):c.holds p s:=by
 obtain⟨z,hs,x⟩:=q;obtain⟨a,e,D,J,h,l,y⟩:=r;simp only[joinedFacts,aQ,beq_iff_eq,dC,cV,decide_eq_true_eq]at d;obtain⟨⟨⟨⟨⟨⟨⟨⟨⟨⟨⟨⟨⟨⟨⟨⟨⟨⟨⟨⟨⟨⟨⟨⟨⟨⟨⟨⟨⟨⟨⟨G,K⟩,N⟩,W⟩,k5⟩,i⟩,L⟩,M⟩,b⟩,O⟩,Q⟩,R⟩,S⟩,T⟩,U⟩,X⟩,Y⟩,Z⟩,a1⟩,a6⟩,a7⟩,V⟩,a8⟩,w⟩,aa⟩,ab⟩,ad⟩,A⟩,ae⟩,af⟩,ah⟩,ai⟩:=d;have hq:∀g:Os,Stop.quiet p.3.2 g:=λg al E=>by rw[b]at E;cases E
 have aj:c.33.isSome=vy:=by cases hx:c.33 with|none=>rfl|some _=>rw[hx]at w;cases w
 have j:∀g,c.world g=g.Started:=λg=>by rw[OpenClaim.world,e,a]
 refine⟨G,z,hs,x,K,N,?_,?_,f,u,B,I,⟨W,a6⟩,λhb=>absurd (h.symm.trans hb) Ad,?_,m,o,i.trans L.symm,⟨M.trans b.symm,?_,aa⟩,O,Q,R,S,T,⟨U,ah,ai⟩,⟨X,a7⟩,⟨Y,V,ae,af⟩,⟨a8,ad,A,Z⟩,?_,λn ak=>varReadable_some (a1 n ak),⟨_,(j _).symm▸WideRow.started_initial,hq _⟩,[],?_,λg st _ H P _=>?_⟩;rw[OpenClaim.startFits];rwa[a];rw[OpenClaim.startTold,a];exact⟨D,J,C⟩;rw[OpenClaim.namedList];rwa[l];rw[Program.envWorded,b];rfl;rw[e,t,aj];simp;rw[OpenClaim.lists,l];rw[j]at st;rw[OpenClaim.post_not_still y,OpenClaim.form,a,i];intro F;have e1:c.okInput=Input.okWide:=by rw[OpenClaim.okInput,h]
 have e2:c.atReturn p.3.2=leavingAtReturn p.3.2:=by rw[OpenClaim.atReturn,k]
 have e3:c.always p.3.2 []=nothingAlways:=by rw[OpenClaim.always,l]
 have e4:s.post P p.3.2 u F c.18 c.11 c.12 c.13 c.14=(s.at F).post P p.3.2 u c.11 c.12 c.13 c.14:=by rw[e];rfl
 rw[e1,e2,e3];show ReturnsInOpen _ _ _ _ _ _ _ _ (s.post P p.3.2 u F c.18 c.11 c.12 c.13 c.14) _ _;rw[e4];exact v g st H P F ab
structure Ren where
 f:Nat->Nat
 inj:∀{i j},f i=f j->i=j
def Ren.Fix(n:Ren)(G:Nat):Prop:=∀i<G,n.f i=i
def sh(n:Ren)(i:Nat):Nat:=n.f i
def Hk{n}(h:sh n i=sh n j):=n.inj h
def Aoq{n}:sh n i=sh n j↔i=j:=⟨Hk,λh=>by rw[h]⟩
def Ew(n:Ren)(a:uw):uw:={ a with block:=sh n a.block }
def Ak1{n a b}(h:Ew n a=Ew n b):a=b:=by cases a;cases b;simp[Ew,Addr.mk.injEq]at h;simp[Addr.mk.injEq];exact⟨Hk h.1,h.2⟩
def Ld(n a k):Ew n (a.add k)=(Ew n a).add k:=by unfold Addr.add;split<;>rfl
def Nv(n:Ren):Fn->Fn
 |.yield l=>.yield (sh n l)
 |f=>f
def A2(n:Ren):O->O
 |vp a=>vp (a.map (Ew n))
 |.slice a l c=>.slice (a.map (Ew n)) l c
 |.map r=>.map (r.map (sh n))
 |.chan r=>.chan (r.map (sh n))
 |.func f a b=>.func (Nv n f) (a.map (A2 n)) (b.map (A2 n))
 |.iface t v=>.iface t (A2 n v)
 |mn cs=>mn (cs.map (A2 n))
 |gq vs=>gq (vs.map (A2 n))
 |o0 b=>o0 b
 |wy k i=>wy k i
 |.float k b=>.float k b
 |.complex k x y=>.complex k x y
 |.string s=>.string s
 |.nilFunc=>.nilFunc
 |.nilIface=>.nilIface
section
variable (n:Ren)
@[simp] theorem A8(a):A2 n (vp a)=vp (a.map (Ew n)):=by rw[A2]
@[simp] theorem Br(a l c):A2 n (.slice a l c)=.slice (a.map (Ew n)) l c:=by rw[A2]
@[simp] theorem Dc(r):A2 n (.map r)=.map (r.map (sh n)):=by rw[A2]
@[simp] theorem Dg(r):A2 n (.chan r)=.chan (r.map (sh n)):=by rw[A2]
@[simp] theorem Ct(f a b):A2 n (.func f a b)=.func (Nv n f) (a.map (A2 n)) (b.map (A2 n)):=by rw[A2]
@[simp] theorem Ck(t v):A2 n (.iface t v)=.iface t (A2 n v):=by rw[A2]
@[simp] theorem Cg(c):A2 n (mn c)=mn (c.map (A2 n)):=by rw[A2]
@[simp] theorem Ci(c):A2 n (gq c)=gq (c.map (A2 n)):=by rw[A2]
@[simp] theorem Cu(b):A2 n (o0 b)=o0 b:=by rw[A2]
@[simp] theorem B0(k i):A2 n (wy k i)=wy k i:=by rw[A2]
@[simp] theorem B7(k i):A2 n (.float k i)=.float k i:=by rw[A2]
@[simp] theorem B3(k i j):A2 n (.complex k i j)=.complex k i j:=by rw[A2]
@[simp] theorem Bj(s):A2 n (.string s)=.string s:=by rw[A2]
@[simp] theorem B5:A2 n .nilFunc=.nilFunc:=by rw[A2]
@[simp] theorem By:A2 n .nilIface=.nilIface:=by rw[A2]
end
def Ku(n v):(A2 n v).cells=v.cells.map (A2 n):=by cases v<;>simp[Value.cells]
def Yl(n:Ren):Target->Target
 |.fn f c=>.fn (Nv n f) (c.map (A2 n))
 |.collected r=>.collected (sh n r)
 |t=>t
def Qh(n:Ren)(d:Deferred):Deferred:=⟨Yl n d.target,d.args.map (A2 n)⟩
def Jb(n:Ren)(x:MapEntry):MapEntry:=⟨A2 n x.key,A2 n x.val,x.born⟩
def Dr(n:Ren):Obj->Obj
 |pf c e fz=>pf (c.map (A2 n)) e fz
 |.pending c e=>.pending (c.map (A2 n)) e
 |.view a t=>.view (Ew n a) t
 |.number a b=>.number (Ew n a) b
 |.map es ck=>.map (es.map (Jb n)) ck
 |.chan cap buf cl s r t=>.chan cap (buf.map (A2 n)) cl s r t
 |.stringIter s p=>.stringIter s p
 |.mapIter m si se st=>.mapIter (m.map (sh n)) si se st
 |.loop l=>.loop { l with tmps:=l.tmps.map (A2 n),defers:=sh n l.defers }
 |.deferred cs=>.deferred (cs.map (List.map (Qh n)))
 |.coro p=>.coro p
 |.finalizers fs r=>.finalizers (fs.map λx=>(sh n x.1,Qh n x.2)) r
def Ha(n:Ren):Loc->Loc
 |.cell a=>.cell (Ew n a)
 |.obj r=>.obj (sh n r)
 |l=>l
def Lr(n:Ren)(e:Event):Event:={ e with loc:=Ha n e.loc }
def Gp(J:iH)(e:Event):Prop:=J e.loc->(∃r,e.loc=.obj r)/\e.write=vy/\e.sync=jz
def Gp.cell{J a x y}(h:Gp J ⟨.cell a,x,y⟩):¬J (.cell a):=λl=>by have ⟨⟨r,e⟩,_⟩:=h l;cases e
def Co{J e}(h:¬J e.loc):Gp J e:=λl=>absurd l h
def Cn(o:Obj):Prop:=∀c e fz,o≠pf c e fz
def Hw{n}(h:Cn o):Cn (Dr n o):=by cases o with|cells c e a=>exact absurd T (h c e a)|_=>exact λ_ _ _ e=>M2
def LikeO(n:Ren)(J:iH)(i:Nat)(o o':Obj):Prop:=
 o'=Dr n o ∨
 (∃c c' e fz,o=pf c e fz/\o'=pf c' e fz/\c'.size=c.size/\∀j,¬J (.cell (iR i j))->c'[j]?=(c[j]?).map (A2 n)) ∨
 ((J (.obj i)/\o'.isChan=o.isChan)/\Cn o/\Cn o') ∨
 ∃c' e fz,o=pf #[] e fz/\o'=pf c' e fz
structure Sm(n t J)(v w:qi):Prop where
 top:∀j,iZ v.1+j<t->sh n (iZ v.1+j)=iZ w.1+j
 lt:∀i<iZ v.1,sh n i<iZ w.1
 out:∀i,iZ v.1<=i->iZ w.1<=sh n i
 like:∀i(o:Obj),v.1[i]?=je o->∃o',w.1[sh n i]?=je o'/\LikeO n J i o o'
 tape:w.tape=v.tape
 drawn:w.drawn=v.drawn
 os:w.os=v.os
 output:w.output=v.output
structure Dd(w w':qi)(es:Array Event):Prop where
 size:iZ w.1<=iZ w'.1
 cell:∀a:uw,a.block<iZ w.1->(∀e∈es,e.write=jz->e.loc≠.cell a)->w'.cell? a=w.cell? a
 obj:∀r(o:Obj),w.1[r]?=je o->Cn o->(∀e∈es,e.write=jz->e.loc≠.obj r)->w'.1[r]?=je o
 row:∀(r:Nat)(c:iJ)e(fz:Nat×Nat),w.1[r]?=je (pf c e fz)->∃c',w'.1[r]?=je (pf c' e fz)/\c'.size=c.size
 nrow:∀(r:Nat)o,w.1[r]?=je o->Cn o->∃o',w'.1[r]?=je o'/\Cn o'/\o'.isChan=o.isChan
 tape:w'.tape=w.tape
 os:w'.os=w.os
 output:w'.output=w.output
def Dd.refl(w X):Dd w w X:=⟨aA _,λ_ _ _=>rfl,λ_ _ h _ _=>h,λ_ c _ _ h=>⟨c,h,T⟩,λ_ o h z=>⟨o,h,z,T⟩,T,T,T⟩
def Dd.trans{a b c L}(h:Dd a b X)(P:Dd b c L):Dd a c (X++L):=by refine⟨aD h.1 P.1,λx Z z=>?_,λr o O M z=>(P.3 r o (h.3 r o O M λe N=>z e (by simp[N])) M λe N=>z e (by simp[N])),λr x e d Y=>?_,λr o O M=>?_,P.6.trans h.6,P.7.trans h.7,P.8.trans h.8⟩;rw[P.2 x (aB Z h.1) λe N=>z e (by simp[N]),h.2 x Z λe N=>z e (by simp[N])];have ⟨g,S,l⟩:=h.4 r x e d Y;have ⟨H,f,R⟩:=P.4 r g e d S;grind;have ⟨K,S,J,i⟩:=h.5 r o O M;have ⟨I,f,u,k⟩:=P.5 r K S J;grind
def Dd.mono{a b L}(h:Dd a b X)(s:∀e∈X,e.write=jz->e∈L):Dd a b L:=
 ⟨h.size,λx Z z=>h.cell x Z λe N W=>z e (s e N W) W,λr o O M z=>h.obj r o O M λe N W=>z e (s e N W) W,h.row,h.5,h.tape,h.os,h.output⟩
def Xy(h:Array Obj)(o i):(h.push o)[i]?=if i=h.size then je o else h[i]?:=by rw[Array.getElem?_push]
def heap_setCell(v:Z)(a x i):(v.setCell a x).1[i]?=if i=a.block then(v.1[i]?).map (fun|pf c b frozen=>pf (if a.3.isSome then c else c.setIfInBounds a.off x) b frozen|o=>o) else v.1[i]?:=by rw[zo];grind
def size_setCell(v:Z)(a x):(v.setCell a x).1.size=iZ v.1:=by simp[zo]
def Plain(v:Z):Prop:=∀(i:Nat)o,v.1[i]?=je o->Wl o
def U9{v}(h:Plain v)(O:Wl o):Plain { v with heap:=v.1.push o }:=by intro i x Z;simp[Xy]at Z;split at Z;grind;exact h i x Z
def Lc(h:Plain v)(a x):Plain (v.setCell a x):=by intro i o O;rw[heap_setCell]at O;split at O;obtain⟨y,U,rfl⟩:=bA.1 O;have:=h _ _ U;cases y<;>simp_all[Wl];exact h i o O
def HB:Halt->Prop
 |.stuck _=>True
 |.unsupported (.initOrder _)=>False
 |.unsupported _=>True
 |.panic _=>True
 |_=>False
def Tv{P}(h:Plain v)(a b):∃x,v.farLoad P a b=.error x/\HB x:=by rw[World.farLoad,World.noCell];exact Ndn
def Ri{P}(h:Plain v)(a x b):∃y,v.farStore P a x b=.error y/\HB y:=by rw[World.farStore,World.noCell];exact Ndn
section
variable {n:Ren} {t:Nat} {J:iH}
def Sm.cell(b:Sm n t J v h){a x}(M:v.cell? a=je x)(l:¬J (.cell a)):h.cell? (Ew n a)=je (A2 n x):=by have ⟨i,j,s⟩:=a;rw[yg]at M⊢;show(match h.1[sh n i]? with|some (pf c _ _)=>if s.isSome then zt else c[j]?|_=>zt)=_;cases q:v.1[i]? with|none=>simp[q]at M|some o=>have ⟨I,G,K⟩:=b.4 i o q;rw[G];simp[q]at M;cases o with|cells c S r=>(cases s with|some s=>simp at M|none=>simp[eX,aX,cB]at M⊢;obtain rfl|⟨Q,B,d,R,L,rfl,e,U⟩|⟨_,z,_⟩|D:=K;simp[Dr,M];grind;exact absurd T (z c S r);grind)|_=>simp at M
def Sm.frozen(d:Sm n t J v h)(b)(f:b.block<iZ v.1):h.frozen? (Ew n b)=v.frozen? b:=by unfold World.frozen?;show(match h.1[sh n b.1]? with|some (pf _ _ (s,V))=>decide _&&decide _|_=>vy)=_;have q:=aN f;generalize v.1[b.1]=o at q;have ⟨I,G,K⟩:=d.4 _ o q;rw[q,G];obtain rfl|⟨Q,B,S,R,rfl,rfl,_⟩|⟨_,z,j⟩|⟨B,E,H,rfl,rfl⟩:=K;cases o<;>rfl;rfl;exact Se9;rfl
def Sm.obj(a:Sm n t J v h){r o}(O:v.1[r]?=je o)(M:Cn o)(Y:¬J (.obj r)):h.1[sh n r]?=je (Dr n o):=by have ⟨I,G,K⟩:=a.4 r o O;obtain rfl|⟨Q,B,S,R,rfl,_⟩|⟨l,_⟩|⟨B,E,H,rfl,rfl⟩:=K;exact G;exact absurd T (M Q S R);exact absurd l.1 Y;exact absurd T (M _ _ _)
def Pg(n o):(Dr n o).isChan=o.isChan:=by cases o<;>rfl
def Sm.objAny(a:Sm n t J v h)(O:v.1[r]?=je o)(M:Cn o):∃I,h.1[sh n r]?=je I/\Cn I/\I.isChan=o.isChan/\(¬J (.obj r)->I=Dr n o):=by have ⟨I,G,K⟩:=a.4 r o O;refine⟨I,G,?_⟩;obtain rfl|⟨Q,B,S,R,rfl,_⟩|⟨l,_,z⟩|⟨B,E,H,rfl,rfl⟩:=K;exact⟨Hw M,Pg n o,λ_=>rfl⟩;exact absurd T (M Q S R);grind;exact absurd T (M _ _ _)
def Sm.drew(a:Sm n t J v h):Sm n t J { v with drawn:=v.drawn+1 } { h with drawn:=h.drawn+1 }:=⟨a.1,a.2,a.3,a.4,a.5,by rw[a.6],a.7,a.8⟩
def Sm.at(a:Sm n t J v h)(d):Sm n t J (v.at d) (h.at d):=⟨a.top,a.lt,a.out,a.4,a.tape,T,a.os,a.output⟩
def Sm.push(a:Sm n t J v h)(R:iZ v.1<t)(o):Sm n t J { v with heap:=v.1.push o } { h with heap:=h.1.push (Dr n o) }:=by
 have F:sh n v.1.size=iZ h.1:=by simpa using a.1 0 (by simpa using R)
 refine⟨λj l=>?_,λi V=>?_,λi V=>?_,λi x Z=>?_,a.5,a.6,a.7,a.8⟩;simp[sd]at l⊢;have:=a.1 (1+j) Aa;grind;simp[sd]at V⊢;by_cases e:i=iZ v.1;subst e;omega;have:=a.2 i Aa;omega;simp[sd]at V⊢;have C:=a.3 i Aa;have b:sh n i≠iZ h.1:=λe=>by have:=Hk (e.trans F.symm);omega
 omega;simp[Xy]at Z⊢;by_cases e:i=iZ v.1;subst e;rw[aL T]at Z;obtain rfl:=aC Z;exact⟨_,by rw[aL F],zk T⟩;rw[aO e]at Z;have K:=a.2 i (aJ.1 Z).1;obtain⟨I,G,E⟩:=a.4 i x Z;grind
def Sm.setCell(b:Sm n t J v h){a y}(M:v.cell? a=je y)(x):Sm n t J (v.setCell a x) (h.setCell (Ew n a) (A2 n x)):=by obtain⟨d,f,s⟩:=a;refine⟨by rw[size_setCell,size_setCell];exact b.1,by rw[size_setCell,size_setCell];exact b.2,by rw[size_setCell,size_setCell];exact b.3,λi o O=>?_,b.5,b.6,b.7,b.8⟩;rw[heap_setCell]at O;rw[heap_setCell];by_cases e:i=d;subst e;have L:(Ew n ⟨i,f,s⟩).1=sh n i:=T;simp only[bV,L]at O⊢;rw[yg]at M;(cases q:v.1[i]? with|none=>simp[q]at O|some p=>obtain⟨u,X,K⟩:=b.4 i p q;simp[q]at M;rw[q,aI]at O;obtain rfl:=aC O;cases p with|cells c S r=>(cases s with|some s=>simp at M|none=>simp[eX,aX,cB]at M;refine⟨_,by rw[X,aI],?_⟩;obtain rfl|⟨Q,B,m,R,g,rfl,k,U⟩|⟨_,z,_⟩|D:=K;left;simp[Dr,Ew];cases g;right;left;refine⟨_,_,_,_,T,T,by simpa[Ew] using k,λj l=>?_⟩;simp[Ew,eX,aX,cB,cF,k];split;split<;>simp;exact U j l;exact absurd T (z _ _ _);obtain⟨B,E,H,D,rfl⟩:=D;cases D;simp at M)|_=>simp at M);rw[aO e]at O;have:¬sh n i=(Ew n ⟨d,f,s⟩).1:=λc=>e (Hk c);rw[aO this];exact b.4 i o O
def Sm.set(a:Sm n t J v h){r p}(Q:v.1[r]?=je p)(o):Sm n t J { v with heap:=v.1.setIfInBounds r o } { h with heap:=h.1.setIfInBounds (sh n r) (Dr n o) }:=by have Y:=(aJ.1 Q).1;refine⟨by simpa using a.1,by simpa using a.2,by simpa using a.3,λi x Z=>?_,a.5,a.6,a.7,a.8⟩;simp[cF]at Z⊢;by_cases e:r=i;subst e;rw[aL T,aL Y]at Z;obtain rfl:=aC Z;exact⟨_,by rw[aL T,aL (a.2 r Y)],zk T⟩;rw[aO e]at Z;rw[aO λc=>e (Hk c)];exact a.4 i x Z
def CV(w o):Dd w { w with heap:=w.1.push o } #[]:=by have I:∀i<iZ w.1,(w.1.push o)[i]?=w.1[i]?:=λi V=>Aj;have lt:∀{i} {x},w.1[i]?=je x->i<iZ w.1:=λh=>(aJ.1 h).1;refine⟨Ae,λa d _=>?_,λr x Z _ _=>(I r (lt Z)).trans Z,λr c e b Z=>⟨c,(I r (lt Z)).trans Z,T⟩,λr x Z z=>⟨x,(I r (lt Z)).trans Z,z,T⟩,T,T,T⟩;unfold yg;simp[I _ d]
def G9(w a x b):Dd w (w.setCell a x) #[⟨.cell a,jz,b⟩]:=by
 refine⟨Nat.le_of_eq (size_setCell w a x).symm,λc M z=>?_,λr o O z _=>?_,λr c e g Y=>?_,λr o O z=>?_,T,T,T⟩;have f:c≠a:=λe=>z ⟨.cell a,jz,b⟩ Ae T (by rw[e]);unfold yg;rw[heap_setCell];by_cases e:c.1=a.1;rw[aL e];cases w.1[c.1]? with|none=>rfl|some o=>cases o with|cells d S g=>(simp[aI];cases j:c.3 with|some s=>simp|none=>cases i:a.3 with|some s=>simp|none=>have:a.2≠c.2:=λL=>f (by cases c;cases a;simp_all);grind)|_=>rfl
 rw[aO e];rw[heap_setCell];split;rw[O];cases o with|cells c e g=>exact absurd T (z c e g)|_=>rfl
 exact O;rw[heap_setCell];split;rw[Y];refine⟨_,T,?_⟩;split<;>simp;exact⟨c,Y,T⟩;rw[heap_setCell];split;rw[O];cases o with|cells c e g=>exact absurd T (z c e g)|_=>exact⟨_,T,z,T⟩
 exact⟨o,O,z,T⟩
def Mh(w){p}(Q:w.1[r]?=je p)(M:Cn p)(o)(O:Cn o)(b)(z:o.isChan=p.isChan):Dd w { w with heap:=w.1.setIfInBounds r o } #[⟨.obj r,jz,b⟩]:=by refine⟨Ae,λa d _=>?_,λi x Z g N=>?_,λi c e f Z=>?_,λi x Z g=>?_,T,T,T⟩;unfold yg;simp[cF];by_cases e:r=a.1;subst e;rw[aL T,aL ((aJ.1 Q).1),Q];(cases o with|cells c e f=>exact absurd T (O c e f)|_=>cases p with|cells c e f=>exact absurd T (M c e f)|_=>rfl);rw[aO e];simp_all;refine⟨c,?_,T⟩;show(w.1.setIfInBounds r o)[i]?=_;rw[cF];split;rename_i e;subst e;rw[Q]at Z;obtain rfl:=aC Z;exact absurd T (M _ _ _);exact Z;grind
def P5(w k):Dd w { w with drawn:=k } #[]:=⟨aA _,λ_ _ _=>rfl,λ_ _ h _ _=>h,λ_ c _ _ h=>⟨c,h,rfl⟩,λ_ o h z=>⟨o,h,z,rfl⟩,rfl,rfl,rfl⟩
end
def Amm:Mark->Prop
 |.noRoom=>True
 |.extern _=>True
 |_=>False
def Ig(v:Z)(e:Event):Prop:=
 match e.loc with
 |.cell a=>∃x,v.cell? a=je x
 |.obj r=>∃o,v.1[r]?=je o/\Cn o/\(o.isChan=jz->e.write=vy/\e.sync=jz)
 |.mark m=>Amm m
 |_=>False
def Ig.frame{v e}(h:Ig v e)(f:Dd v U X):Ig U e:=by rw[Ig]at *;split at h;have ⟨x,Z⟩:=h;rename_i a _;rw[yg]at Z⊢;(cases q:v.1[a.1]? with|none=>simp[q]at Z|some o=>simp[q]at Z;cases o with|cells c e b=>have ⟨B,n,s⟩:=f.4 _ _ _ _ q;grind|_=>simp at Z);have ⟨o,O,z,M⟩:=h;have ⟨I,C,J,T⟩:=f.5 _ _ O z;grind;exact h;exact h
def Hd(H:iG)(v:Z):Prop:=∀r,H r->∀o,v.1[r]?=je o->Cn o/\o.isChan=vy
def Hd.frame{v:qi}(h:Hd H v)(K:∀r,H r->r<v.1.size)(f:Dd v U X):Hd H U:=λr Y o O=>by have F:=aN (K r Y);have ⟨C,J⟩:=h r Y _ F;have ⟨I,T,q,z⟩:=f.5 r _ F C;grind
structure Df(H){α β}(P n)(f:α->β)(s:Sem α)(t:Sem β):Prop where
 monoH:∀v a v',Plain v->(Hd H v/\∀r,H r->r<iZ v.1)->s.run P v=.ok a v'->Plain v'/\Dd v v' (s.events P v #[])/\∀e∈s.events P v #[],Ig v' e
 haltsH:∀v h v',Plain v->(Hd H v/\∀r,H r->r<iZ v.1)->s.run P v=.halt h v'->HB h
 simH:∀J t0 v w,Sm n t0 J v w->Plain v->(Hd H v/\∀r,H r->r<iZ v.1)->(∀e∈s.events P v #[],Gp J e)->∀a v',s.run P v=.ok a v'->iZ v'.1<=t0 ->
  ∃w',t.run P w=.ok (f a) w'/\t.events P w #[]=(s.events P v #[]).map (Lr n)/\Sm n t0 J v' w'/\Dd w w' (t.events P w #[])
abbrev Rf{α β}(P:jd)(n:Ren)(f:α->β)(s:Sem α)(t:Sem β):Prop:=Df (λ_=>False) P n f s t
def LO(v):Hd iV v/\∀r,False->r<iZ v.1:=⟨λ_ h=>h.elim,λ_ h=>h.elim⟩
def Rf.mono{a b P n}{f:a->b}{s t}(h:Rf P n f s t):∀v c U,Plain v->s.run P v=.ok c U->Plain U/\Dd v U (s.events P v #[])/\∀e∈s.events P v #[],Ig U e:=λv c U Q=>h.1 v c U Q (LO v)
def Rf.halts{a b P n}{f:a->b}{s t}(h:Rf P n f s t):∀v x U,Plain v->s.run P v=.halt x U->HB x:=λv x U Q=>h.2 v x U Q (LO v)
def Rf.sim{a b P n}{f:a->b}{s t}(h:Rf P n f s t):∀J u v w,Sm n u J v w->Plain v->(∀e∈s.events P v #[],Gp J e)->∀c U,s.run P v=.ok c U->iZ U.1<=u ->
  ∃B,t.run P w=.ok (f c) B/\t.events P w #[]=(s.events P v #[]).map (Lr n)/\Sm n u J U B/\Dd w B (t.events P w #[]):=λJ u v w d Q=>h.3 J u v w d Q (LO v)
section
variable {b a:Type} {P:jd} {n:Ren}
def E9{s}{k:b->Sem a}{t x}(h:s.run P v=.ok x t):(s >>= k).events P v #[]=s.events P v #[]++(k x).events P t #[]:=by rw[Sem.events_bind,h,Result.evThen_ok,Sem.events_acc]
def Rf.bind{f:b->c}{g:a->d}{s t}{k:b->Sem a}{q:c->Sem d}(i:Df H P n f s t)(E:∀h,Df H P n g (k h) (q (f h))):Df H P n g (s >>= k) (t >>= q):=by
 have o:∀{v} {h} {U},(s >>= k).run P v=.ok h U->∃x e,s.run P v=.ok x e/\(k x).run P e=.ok h U:=λ{v h U} Y=>by rw[Sem.run_bind]at Y;cases C:s.run P v with|halt i w=>simp_all|ok x e=>rw[C]at Y;exact⟨x,e,iW,Y⟩
 refine⟨λv h U Q p Y=>?_,λv x U Q p Y=>?_,λJ u v w T Q p O h U Y R=>?_⟩;rotate_left;rw[Sem.run_bind]at Y;cases C:s.run P v with|halt y w=>rw[C]at Y;cases Y;exact i.2 v _ _ Q p C|ok y e=>rw[C]at Y;obtain⟨m,D,_⟩:=i.1 v y e Q p C;exact(E y).2 e x U m ⟨p.1.frame p.2 D,λr Y=>aB (p.2 r Y) D.1⟩ Y
 rotate_left;obtain⟨x,e,C,l⟩:=o Y;obtain⟨m,D,B⟩:=i.1 v x e Q p C;obtain⟨I,K,Z⟩:=(E x).1 e h U m ⟨p.1.frame p.2 D,λr Y=>aB (p.2 r Y) D.1⟩ l;rw[E9 C];exact⟨I,D.trans K,λj N=>(cH.1 N).elim (λN=>(B j N).frame K) (Z j)⟩;obtain⟨x,e,C,l⟩:=o Y;obtain⟨m,z,_⟩:=i.1 v x e Q p C;have F:Hd H e/\∀r,H r->r<iZ e.1:=⟨p.1.frame p.2 z,λr Y=>aB (p.2 r Y) z.1⟩;obtain⟨I,W,_⟩:=(E x).1 e h U m F l;rw[E9 C]at O⊢;obtain⟨G,S,L,V,D⟩:=i.3 J u v w T Q p (λj N=>O j (cH.2 (zk N))) x e C (aD W.1 R);obtain⟨M,a1,X,A,K⟩:=(E x).3 J u e G V m F (λj N=>O j (cH.2 (qx N))) h U l R;refine⟨M,?_,?_,A,?_⟩;rwa[Sem.run_bind,S];rw[E9 S,L,X,dQ];rw[E9 S];exact D.trans K
def Rf.pure{f:b->c}{a d}(h:d=f a):Df H P n f (Pure.pure a:Sem b) (Pure.pure d):=by refine⟨λv x U Q p Y=>?_,λv x U Q p Y=>(by cases Y),λJ u v w s Q p O x U Y R=>?_⟩;cases Y;exact⟨Q,.refl _ _,Ae⟩;cases Y;subst h;exact⟨w,T,Ae,s,.refl _ _⟩
def Rf.programIn{g:a->d}{k:jd->Sem a}{q:jd->Sem d}(h:Df H P n g (k P) (q P)):Df H P n g (Go.program >>= k) (Go.program >>= q):=⟨λv b U Q p Y=>h.1 v b U Q p Y,λv x U Q p Y=>h.2 v x U Q p Y,λJ u v w s Q p O b U Y R=>h.3 J u v w s Q p O b U Y R⟩
def Alr(P:jd)(s:Sem b):Prop:=∀v a v',s.run P v≠.ok a v'
def Lg(P:jd)(s:Sem b):Prop:=∀v h v',s.run P v=.halt h v'->HB h
structure Nev(P)(s:Sem b):Prop where
 never:Alr P s
 halts:Lg P s
def Rf.never{f:b->c}{s t}(h:Nev P s):Df H P n f s t:=⟨λv a U _ _ Y=>absurd Y (h.never v a U),λv x U _ _ Y=>h.halts v x U Y,λJ u v w d Q p O x U Y=>absurd Y (h.never v x U)⟩
def Db{s:Sem b}{h}(e:s=.halt h)(D:HB h):Nev P s:=by subst e;exact⟨λv a U Y=>(by cases Y),λv x U Y=>(by cases Y;exact D)⟩
def Rf.stuck{f:b->c}{m t}:Df H P n f (Go.stuck m) t:=Rf.never (Db T trivial)
def Rf.unsup{f:b->c}{m t}(h:HB (.unsupported m):=by exact trivial):Df H P n f (Go.unsupported m) t:=Rf.never (Db T h)
def Iv(a):Lg P (Pure.pure a:Sem b):=λv h U Y=>by cases Y
def Iu{s}{k:b->Sem a}(h:Lg P s)(E:∀c,Lg P (k c)):Lg P (s >>= k):=λv x U Y=>by rw[Sem.run_bind]at Y;cases C:s.run P v with|halt _ _=>rw[C]at Y;cases Y;exact h _ _ _ C|ok y t=>rw[C]at Y;exact E y t x U Y
def Kz:Lg P Go.program:=λv h U Y=>by cases Y
def Vx(o):Lg P (Go.newObj o):=λv h U Y=>by simp_all
def P7(q):Lg P (Go.choose q):=λv h U Y=>by simp[Go.choose,Sem.run]at Y;split at Y<;>cases Y
def Uw(m):Lg P (Go.mark m):=λv h U Y=>by cases Y
def Hi{s}{k:b->Sem a}(d:Lg P s)(h:∀c,Nev P (k c)):Nev P (s >>= k):=⟨λv x U Y=>by rw[Sem.run_bind]at Y;cases C:s.run P v with|halt _ _=>simp_all|ok y t=>rw[C]at Y;exact(h y).1 t x U Y,Iu d λc=>(h c).2⟩
def Eh{s}{k:b->Sem a}(h:Nev P s):Nev P (s >>= k):=by (have n:∀v,∃x t,s.run P v=.halt x t:=λv=>by cases C:s.run P v with|halt x t=>exact⟨x,t,T⟩|ok y t=>exact absurd C (h.1 v y t));refine⟨λv x U Y=>?_,λv x U Y=>?_⟩;have ⟨y,t,C⟩:=n v;simp_all;have ⟨y,t,C⟩:=n v;rw[Sem.run_bind,C]at Y;cases Y;exact h.2 _ _ _ C
def Rr{m}:Lg P (Go.stuck m:Sem b):=(Db (h:=.stuck m) T trivial).halts
def CZ(t):Lg P (Go.typeInfo t):=Iu Kz λp=>by cases p.info? t with|none=>exact Rr|some i=>exact Iv _
def LM(t):Lg P (Go.elemOf t):=by refine Iu ((by refine Iu Kz λp=>?_;cases p.underlying t with|none=>exact Rr|some i=>exact Iv _)) λd=>?_;cases d<;>first|exact Iv _|exact Rr
def J8(e):Nev P (Go.runtimePanic e:Sem b):=by refine Hi Kz λp=>?_;split;all_goals first|exact Db T trivial|exact Hi _ λ_=>Db T trivial|exact Hi _ λ_=>Db T trivial|exact Hi (LM _) λ_=>Hi (Iu (Vx _) λ_=>Iv _) λ_=>Db T trivial
def Rf.rt{f:b->c}{e t}:Df H P n f (Go.runtimePanic e) t:=Rf.never (J8 e)
def Rf.bp{f:b->c}{k x y a t}:Df H P n f (Go.boundsPanic k x y a) t:=Rf.never ((by rw[Go.boundsPanic];split;exact Hi (by exact Iu (P7 _) λ_=>Iv _) λ_=>J8 _;exact Hi (Iv _) λ_=>J8 _))
def YP{m a}{k:O->Sem b}{r}(Q:Plain v)(h:(Sem.load m a k).run P v=.ok r U):∃x,v.cell? a=je x:=by cases q:v.cell? a with|some x=>exact⟨x,T⟩|none=>have ⟨x,Z,_⟩:=Tv (P:=P) Q a (m==.atomic);simp[Sem.run,q,Z]at h
def Rf.load(a m):Df H P n (A2 n) (Go.load a m) (Go.load (Ew n a) m):=by refine⟨λv x b Q p Y=>?_,(λv h b Q p Y=>by cases q:v.cell? a with|some x=>simp_all|none=>obtain⟨y,U,D⟩:=Tv (P:=P) Q a (m==.atomic);simp_all),λJ u v w s Q p O x b Y R=>?_⟩;obtain⟨y,U⟩:=YP Q Y;simp only[Go.load,Sem.run,U]at Y;cases Y;exact⟨Q,.refl _ _,by simp[-Sem.runT_eq,Go.load,Sem.events,Sem.runT,U,Ig]⟩;obtain⟨y,U⟩:=YP Q Y;(have d:∀w(a:uw)z,w.cell? a=je z->(Go.load a m).events P w #[]=#[⟨.cell a,vy,m==.atomic⟩]:=λw a z N=>by simp_all);rw[d v a y U]at O⊢;have W:=s.cell U ((O _ (eE.2 T)).cell);simp only[Go.load,Sem.run,U]at Y;cases Y;exact⟨w,by simp_all,by rw[d w _ _ W];simp[Lr,Ha],s,.refl _ _⟩
def An6(n){x}(h:∀c,x≠mn c)(P:∀c,x≠gq c):(∀c,A2 n x≠mn c)/\∀c,A2 n x≠gq c:=by cases x<;>simp_all
def run_store{m a}{k:Sem b}{y}(M:v.cell? a=je y)(I:v.frozen? a=vy)(h:∀c,x≠mn c)(d:∀c,x≠gq c)(X):(Sem.store m a x k).run P v=k.run P (v.setCell a x)/\(Sem.store m a x k).runT P v X=k.runT P (v.setCell a x) (X.push ⟨.cell a,jz,m==.atomic⟩):=by cases x<;>simp_all[-Sem.runT_eq,Sem.run,Sem.runT]
def QB{m a k}{r:b}(Q:Plain v)(h:(Sem.store m a x k).run P v=.ok r U):(∃y,v.cell? a=je y)/\v.frozen? a=vy/\(∀c,x≠mn c)/\∀c,x≠gq c:=by have ⟨y,d,_⟩:=Ri (P:=P) Q a x (m==.atomic);cases M:v.cell? a with|none=>cases x<;>simp[Sem.run,M,d]at h|some z=>cases I:v.frozen? a with|true=>cases x<;>simp[Sem.run,M,I]at h|false=>exact⟨⟨z,T⟩,T,λc e=>by subst e;simp[Sem.run]at h,λc e=>by subst e;simp[Sem.run]at h⟩
def Lb{a y}(h:v.cell? a=je y):a.block<iZ v.1:=by rw[yg]at h;grind
def Rf.store(a x m):Df H P n id (Go.store a x m) (Go.store (Ew n a) (A2 n x) m):=by
 have g:∀w(a:uw)x y,w.cell? a=je y->w.frozen? a=vy->(∀c,x≠mn c)->(∀c,x≠gq c)->(Go.store a x m).events P w #[]=#[⟨.cell a,jz,m==.atomic⟩]:=λw a x y M I h k=>by rw[Go.store,Sem.events,(run_store M I h k #[]).2];simp[-Sem.runT_eq,Sem.runT]
 refine⟨λv z e Q p Y=>?_,(λv h e Q p Y=>by obtain⟨y,U,D⟩:=Ri (P:=P) Q a x (m==.atomic);cases M:v.cell? a with|none=>cases x<;>(simp only[Go.store,Sem.run,M,U]at Y;cases Y;first|exact D|exact trivial)|some z=>cases I:v.frozen? a<;>cases x<;>(simp[Go.store,Sem.run,M,I]at Y)<;>(obtain⟨rfl,_⟩:=Y;exact trivial)),λJ u v w s Q p O z e Y R=>?_⟩;obtain⟨⟨y,U⟩,I,C,d⟩:=QB Q Y;rw[g v a x y U I C d];rw[Go.store,(run_store U I C d #[]).1]at Y;cases Y;have X:=G9 v a x (m==.atomic);refine⟨Lc Q a x,X,λi N=>?_⟩;obtain rfl:=eE.1 N;exact Ig.frame (v:=v) (show Ig v ⟨.cell a,jz,m==.atomic⟩ from⟨y,U⟩) X;obtain⟨⟨y,U⟩,I,C,d⟩:=QB Q Y;rw[g v a x y U I C d]at O⊢;have W:=s.cell U ((O _ (eE.2 T)).cell);have b:w.frozen? (Ew n a)=vy:=by rwa[s.frozen a (Lb U)]
 have f:=An6 n C d;rw[Go.store,(run_store U I C d #[]).1]at Y;cases Y;refine⟨w.setCell (Ew n a) (A2 n x),?_,by rw[g w _ _ _ W b f.1 f.2];simp[Lr,Ha],s.setCell U x,?_⟩;rw[Go.store,(run_store W b f.1 f.2 #[]).1];rfl;rw[g w _ _ _ W b f.1 f.2];exact G9 w _ _ _
def Rf.newObj{o}(h:Wl o):Df H P n (sh n) (Go.newObj o) (Go.newObj (Dr n o)):=by
 refine⟨λv z U Q p Y=>?_,(λv h U Q p Y=>Vx o v h U Y),λJ u v w s Q p O z U Y R=>?_⟩;have b:(Go.newObj o).events P v #[]=#[]:=Ae;cases Y;exact⟨U9 Q h,CV v o,Ae⟩;have b:∀w(o:Obj),(Go.newObj o).events P w #[]=#[]:=λw o=>Ae;cases Y;have e:iZ v.1<u:=by simp at R;omega
 have F:sh n v.1.size=iZ w.1:=by simpa using s.1 0 (by simpa using e)
 exact⟨{ w with heap:=w.1.push _ },by simp_all,Ae,s.push e o,CV w _⟩
def Va{p}(O:w.1[r]?=je p)(z:Cn p):(Go.getObj r).run P w=.ok p w/\(Go.getObj r).events P w #[]=#[⟨.obj r,vy,p.isChan⟩]:=by cases p with|cells c e j=>exact absurd T (z c e j)|_=>simp[-Sem.runT_eq,Go.getObj,Sem.run,Sem.events,Sem.runT,O]
def IT{x}(Y:(Go.getObj r).run P v=.ok x U):v.1[r]?=je x/\Cn x/\U=v:=by cases q:v.1[r]? with|none=>simp[Go.getObj,Sem.run,q]at Y|some o=>cases o with|cells c e b=>simp[Go.getObj,Sem.run,q]at Y|_=>simp only[Go.getObj,Sem.run,q]at Y;cases Y;exact⟨T,λ_ _ _ e=>by (cases e),T⟩
def He(h:o.isChan=jz):∃a b c d e f,o=.chan a b c d e f:=by cases o with|chan a b c d e f=>grind|_=>cases h
def Rf.getObjThen{f:a->d}{k:Obj->Sem a}{q:Obj->Sem d}(r)(E:∀o,o.isChan=vy->Df (λi=>H i∨i=r) P n f (k o) (q (Dr n o)))(M:∀o I,o.isChan=jz->I.isChan=jz->Df H P n f (k o) (q I)):Df H P n f (Go.getObj r >>= k) (Go.getObj (sh n r) >>= q):=by
 have g:∀{v} {o},(Hd H v/\∀i,H i->i<iZ v.1)->v.1[r]?=je o->Cn o->o.isChan=vy->Hd (λi=>H i∨i=r) v/\∀i,(H i∨i=r)->i<iZ v.1:=λ{v o} b O hn z=>⟨λi V A Q=>V.elim (λm=>b.1 i m A Q) λe=>Aj,λi V=>V.elim (b.2 i) λe=>Aj⟩;have p:∀{v} {c} {U},(Go.getObj r >>= k).run P v=.ok c U->∃o,v.1[r]?=je o/\Cn o/\(k o).run P v=.ok c U:=λ{v c U} Y=>by rw[Sem.run_bind]at Y;cases C:(Go.getObj r).run P v with|halt m w=>simp_all|ok x F=>rw[C]at Y;obtain⟨j,T,rfl⟩:=IT C;simp_all
 refine⟨λv c U Q b Y=>?_,λv x U Q b Y=>?_,λJ u v w s Q b O c U Y R=>?_⟩;obtain⟨o,C,j,T⟩:=p Y;obtain⟨X,G⟩:=Va (P:=P) C j;have h:Plain U/\Dd v U ((k o).events P v #[])/\∀e∈(k o).events P v #[],Ig U e:=by cases z:o.isChan with|false=>exact(E o z).1 v c U Q (g b C j z) T|true=>exact(M o o z z).1 v c U Q b T
 obtain⟨K,t,L⟩:=h;rw[E9 X,G];refine⟨K,(Dd.refl v _).trans t,λe N=>(cH.1 N).elim (λN=>?_) (L e)⟩;obtain rfl:=eE.1 N;exact Ig.frame (v:=v) (show Ig v ⟨.obj r,vy,o.isChan⟩ from⟨o,C,j,λe=>⟨iW,e⟩⟩) t;rw[Sem.run_bind]at Y;cases C:(Go.getObj r).run P v with|halt a1 w=>(rw[C]at Y;cases Y;cases y:v.1[r]? with|none=>simp only[Go.getObj,Sem.run,y]at C;cases C;exact trivial|some o=>cases o<;>(simp only[Go.getObj,Sem.run,y]at C;cases C)<;>exact trivial)|ok o F=>rw[C]at Y;obtain⟨j,T,rfl⟩:=IT C;cases z:o.isChan with|false=>exact(E o z).2 _ x U Q (g b j T z) Y|true=>exact(M o o z z).2 _ x U Q b Y
 obtain⟨o,C,j,T⟩:=p Y;obtain⟨X,G⟩:=Va (P:=P) C j;rw[E9 X,G]at O⊢;obtain⟨I,S,W,Z,e4⟩:=s.objAny C j;obtain⟨D,f2⟩:=Va (P:=P) S W;have h:∃B,(q I).run P w=.ok (f c) B/\(q I).events P w #[]=((k o).events P v #[]).map (Lr n)/\Sm n u J U B/\Dd w B ((q I).events P w #[]):=by cases z:o.isChan with|false=>(have l:¬J (.obj r):=λl=>by have:=(O ⟨.obj r,vy,o.isChan⟩ Ae l).2.2;rw[z]at this;cases this);rw[e4 l];exact(E o z).3 J u v w s Q (g b C j z) (λe N=>O e (cH.2 (qx N))) c U T R|true=>exact(M o I z (Z.trans z)).3 J u v w s Q b (λe N=>O e (cH.2 (qx N))) c U T R
 obtain⟨B,k1,k2,k3,k4⟩:=h;refine⟨B,?_,?_,k3,?_⟩;rwa[Sem.run_bind,D];rw[E9 D,f2,k2,Z,dQ];simp[Lr,Ha];rw[E9 D];exact(Dd.refl w _).trans k4
def Rf.setObj{o}(h:Wl o)(M:Cn o)(d:o.isChan=vy)(r)(Y:H r):Df H P n id (Go.setObj r o) (Go.setObj (sh n r) (Dr n o)):=by
 have k:∀{v U} {x},(Go.setObj r o).run P v=.ok x U->(∃p,v.1[r]?=je p/\Cn p)/\U = { v with heap:=v.1.setIfInBounds r o }:=λ{v U x} Y=>by cases q:v.1[r]? with|none=>simp[Go.setObj,Sem.run,q]at Y|some p=>cases p with|cells c e j=>simp[Go.setObj,Sem.run,q]at Y|_=>simp[Go.setObj,Sem.run,q]at Y;cases Y;exact⟨⟨_,T,λ_ _ _ e=>by (cases e)⟩,T⟩
 have f:∀w(r:Nat)o p,w.1[r]?=je p->Cn p->(Go.setObj r o).run P w=.ok () { w with heap:=w.1.setIfInBounds r o }/\(Go.setObj r o).events P w #[]=#[⟨.obj r,jz,o.isChan⟩]:=λw r o p O z=>by cases p with|cells c e j=>exact absurd T (z c e j)|_=>simp[-Sem.runT_eq,Go.setObj,Sem.run,Sem.events,Sem.runT,O]
 refine⟨λv a U Q g F=>?_,(λv h U Q g Y=>by cases q:v.1[r]? with|none=>simp_all|some o=>cases o<;>(simp only[Go.setObj,Sem.run,q]at Y;cases Y)<;>exact trivial),λJ u v w s Q g O a U F R=>?_⟩;obtain⟨⟨p,C,b⟩,rfl⟩:=k F;rw[(f v r o p C b).2];refine⟨(by intro i x Z;simp[cF]at Z;split at Z;grind;exact Q i x Z),Mh v C b o M _ (d.trans (g.1 r Y p C).2.symm),λe he=>?_⟩;obtain rfl:=eE.1 he;exact⟨o,by simp[(aJ.1 C).1],M,λe=>by rw[d]at e;cases e⟩;obtain⟨⟨p,C,b⟩,rfl⟩:=k F;rw[(f v r o p C b).2]at O⊢;have W:=s.obj C b (λl=>by have:=(O _ (eE.2 T) l).2.1;cases this);have I:=f w _ (Dr n o) _ W (Hw b);have V:(Dr n o).isChan=o.isChan:=Pg n o;refine⟨_,I.1,by rw[I.2,V];simp[Lr,Ha],s.set C o,?_⟩;rw[I.2];exact Mh w W (Hw b) _ (Hw M) _ (by rw[V,Pg,d,(g.1 r Y p C).2])
def Rf.choose(q):Df H P n id (Go.choose q) (Go.choose q):=by have b:∀w,(Go.choose q).events P w #[]=#[]:=λw=>Ae;refine⟨λv z U Q p Y=>?_,(λv h U Q p Y=>P7 q v h U Y),λJ u v w s Q p O z U Y R=>?_⟩;rw[b];simp[Go.choose,Sem.run]at Y;split at Y;cases Y;exact⟨Q,.refl _ _,Ae⟩;cases Y;exact⟨Q,P5 v _,Ae⟩;rw[b,b];simp only[Go.choose,Sem.run]at Y⊢;rw[s.5,s.6];split at Y;rename_i f;cases Y;exact⟨w,by rw[aL f];rfl,Ae,s,.refl _ _⟩;rename_i f;cases Y;have C:=s.drew;rw[s.6]at C;refine⟨_,by rw[aO f];rfl,Ae,?_,?_⟩;rwa[s.5]at C;rw[←s.5];exact P5 w _
def Rf.program:Df H P n id Go.program Go.program:=⟨λv z U Q p Y=>by cases Y;exact⟨Q,.refl _ _,Ae⟩,λv h U Q p Y=>Kz v h U Y,λJ u v w s Q p O z U Y R=>by cases Y;exact⟨w,T,Ae,s,.refl _ _⟩⟩
def Rf.mark{m}(L:Amm m):Df H P n id (Go.mark m) (Go.mark m):=⟨λv z U Q p Y=>by cases Y;exact⟨Q,.refl _ _,by simp[-Sem.runT_eq,Go.mark,Sem.events,Sem.runT,Ig,L]⟩,λv h U Q p Y=>Uw m v h U Y,λJ u v w s Q p O z U Y R=>by cases Y;exact⟨w,T,by simp[-Sem.runT_eq,Go.mark,Sem.events,Sem.runT,Lr,Ha],s,.refl _ _⟩⟩
def Rf.noRoom:Df H P n id (Go.mark .noRoom) (Go.mark .noRoom):=Rf.mark trivial
def Rf.map{f:b->c}{s t}{g:b->a}{R:c->d}{h:a->d}(i:Df H P n f s t)(j:∀e,R (f e)=h (g e)):Df H P n h (g <$> s) (R <$> t):=by exact Rf.bind i λe=>Rf.pure (j e)
def Sm.shape{t J}(h:Sm n t J v w)(r):w.shape? (sh n r)=v.shape? r∨∃e m,v.shape? r=je (e,0)/\w.shape? (sh n r)=je (e,m):=by unfold World.shape?;cases q:v.1[r]? with|none=>have C:=Array.getElem?_eq_none_iff.2 (h.3 r (Array.getElem?_eq_none_iff.1 q));grind|some o=>obtain⟨I,G,K⟩:=h.4 r o q;rw[G];obtain rfl|⟨c,B,e,a,rfl,rfl,s,_⟩|⟨_,z,j⟩|⟨B,e,a,rfl,rfl⟩:=K;left;cases o<;>simp[Dr];left;simp[s];left;exact Se9;grind
def Rf.shapeThen{f:a->d}{k:Option (uy×Nat)->Sem a}{q:Option (uy×Nat)->Sem d}(r)(E:∀x,Df H P n f (k x) (q x))(F:∀e,Alr P (k (je (e,0)))∨∀m,q (je (e,m))=q (je (e,0))):Df H P n f (Go.shape r >>= k) (Go.shape (sh n r) >>= q):=by have b:∀w r {a} (k:Option (uy×Nat)->Sem a),(Go.shape r >>= k).events P w #[]=(k (w.shape? r)).events P w #[]:=λw r {a} k=>Ae;refine⟨λv z U Q p Y=>by exact(E _).1 v z U Q p Y,λv h U Q p Y=>(E (v.shape? r)).2 v h U Q p Y,λJ u v w s Q p O z U Y R=>?_⟩;rw[b,b];have I:(k (v.shape? r)).run P v=.ok z U:=Y;(have e:q (w.shape? (sh n r))=q (v.shape? r):=by obtain e|⟨e,m,S,L⟩:=s.shape r;rw[e];obtain h|h:=F e;rw[S]at I;exact absurd I (h _ _ _);grind);rw[e];obtain⟨B,C,i⟩:=(E _).3 J u v w s Q p O z U I R;refine⟨B,?_,i⟩;simp_all
end
section
variable {b a:Type} {P:jd} {n:Ren}
def Rf.askRoom(k):Df H P n id (Go.askRoom k) (Go.askRoom k):=by rw[Go.askRoom];split;exact Rf.noRoom;exact Rf.pure T
def Rf.typeInfo(t):Df H P n id (Go.typeInfo t) (Go.typeInfo t):=Rf.bind Rf.program λp=>by simp[id];split;exact Rf.pure T;exact Rf.stuck
def Rf.underlying(t):Df H P n id (Go.underlying t) (Go.underlying t):=Rf.bind Rf.program λp=>by simp[id];split;exact Rf.pure T;exact Rf.stuck
def Rf.sizeOf(t):Df H P n id (Go.sizeOf t) (Go.sizeOf t):=Rf.bind (Rf.typeInfo t) λ_=>Rf.pure T
def Rf.isAgg(t):Df H P n id (Go.isAgg t) (Go.isAgg t):=Rf.bind (Rf.underlying t) λd=>by simp[id];split<;>exact Rf.pure T
def Rf.newRow(e)(c:iJ):Df H P n (Ew n) (Go.newRow e c) (Go.newRow e (c.map (A2 n))):=Rf.bind (Rf.newObj (o:=pf c e) trivial) λ_=>Rf.pure T
def Rf.newVar(e x):Df H P n (Ew n) (Go.newVar e x) (Go.newVar e (A2 n x)):=by unfold Go.newVar;rw[Ku];exact Rf.newRow _ _
def Rf.loadCellsFrom(a):∀k i(D:iJ),Df H P n (sx (A2 n)) (Go.loadCellsFrom a i k D) (Go.loadCellsFrom (Ew n a) i k (D.map (A2 n)))
 |0,_,_=>Rf.pure T|k+1,i,D=>by unfold Go.loadCellsFrom;rw[←Ld];refine Rf.bind (Rf.load _ _) λx=>?_;rw[←Array.map_push];exact Rf.loadCellsFrom a k _ _
def Rf.loadCells(a k):Df H P n (sx (A2 n)) (Go.loadCells a k) (Go.loadCells (Ew n a) k):=by have:=Rf.loadCellsFrom (P:=P) (n:=n) (H:=H) a k 0 #[];unfold Go.loadCells;simpa using this
def Rf.storeCells(a):∀(b:iK)i,Df H P n id (Go.storeCells a b i) (Go.storeCells (Ew n a) (b.map (A2 n)) i)
 |[],_=>Rf.pure T|x::b,i=>by unfold Go.storeCells;rw[←Ld];exact Rf.bind (Rf.store _ _ _) λ_=>Rf.storeCells a b _
def Rf.loadVar(t a):Df H P n (A2 n) (Go.loadVar t a) (Go.loadVar t (Ew n a)):=Rf.bind (Rf.isAgg t) λb=>by simp[id];split;exact Rf.bind (Rf.sizeOf _) λ_=>Rf.bind (Rf.loadCells _ _) λ_=>Rf.pure Ae;exact Rf.load _ _
def Rf.storeVar(t a x):Df H P n id (Go.storeVar t a x) (Go.storeVar t (Ew n a) (A2 n x)):=Rf.bind (Rf.sizeOf t) λk=>by simp only[id];rw[Ku,hQ];split;(exact Rf.bind (f:=id) Rf.stuck λ_=>bS▸Rf.storeCells _ _ _);exact Rf.bind (f:=id) (Rf.pure T) λ_=>bS▸Rf.storeCells _ _ _
def Rf.part(t)(cs:iJ)(off):Df H P n (A2 n) (Go.part t cs off) (Go.part t (cs.map (A2 n)) off):=Rf.bind (Rf.isAgg t) λb=>by simp only[id];split;exact Rf.bind (Rf.sizeOf _) λ_=>Rf.pure Ae;rw[aM];cases cs[off]? with|none=>exact Rf.stuck|some x=>exact Rf.pure T
def Rf.asIntOf(x):Df H P n id (Go.asIntOf x) (Go.asIntOf (A2 n x)):=by cases x with|int k i=>rw[B0];exact Rf.pure T|pointer a=>(cases a<;>first|exact Rf.stuck|exact Rf.unsup)|_=>exact Rf.stuck
def Rf.asInt(x):Df H P n id (Go.asInt x) (Go.asInt (A2 n x)):=Rf.bind (Rf.asIntOf x) λ_=>Rf.pure T
def Rf.asBool(x):Df H P n id (Go.asBool x) (Go.asBool (A2 n x)):=by cases x with|bool b=>rw[Cu];exact Rf.pure T|_=>exact Rf.stuck
def Rf.asAgg(x):Df H P n (sx (A2 n)) (Go.asAgg x) (Go.asAgg (A2 n x)):=by cases x with|agg b=>rw[Cg];exact Rf.pure T|_=>exact Rf.stuck
def Rf.asAddr(x):Df H P n (Ew n) (Go.asAddr x) (Go.asAddr (A2 n x)):=by cases x with|pointer a=>(cases a with|none=>exact Rf.never (by rw[Go.asAddr];exact J8 _)|some a=>rw[A8];exact Rf.pure T)|_=>exact Rf.stuck
def Rf.sureAddr(x):Df H P n (Ew n) (Instr.sureAddr x) (Instr.sureAddr (A2 n x)):=by cases x with|pointer t=>(rw[A8];cases t<;>first|exact Rf.stuck|exact Rf.pure T)|_=>exact Rf.stuck
def Rf.listMapM{a}{f:b->c}{g:a->d}{k:b->Sem a}{q:c->Sem d}(h:∀x,Df H P n g (k x) (q (f x))):∀l:List b,Df H P n (List.map g) (l.mapM k) ((l.map f).mapM q)
 |[]=>by exact Rf.pure T|x::l=>by simp only[bF,List.mapM_cons];exact Rf.bind (h x) λ_=>Rf.bind (Rf.listMapM h l) λ_=>Rf.pure T
def Rf.arrayMapM{a}{f:b->c}{g:a->d}{k:b->Sem a}{k':c->Sem d}(h:∀x,Df H P n g (k x) (k' (f x)))(l:Array b):Df H P n (sx g) (l.mapM k) ((l.map f).mapM k'):=by rw[pd,pd,bS];exact Rf.map (Rf.listMapM h _) λe=>Ae
end
def Ie(P:jd):Prop:=∀t i z,P.info? t=je i->i.zero=je z->∀n,A2 n z=z
section
variable {b a:Type} {P:jd} {n:Ren}
def Rf.typeInfoIn(t){g:a->d}{k:TypeInfo->Sem a}{q:TypeInfo->Sem d}(h:∀i,P.info? t=je i->Df H P n g (k i) (q i)):Df H P n g (Go.typeInfo t >>= k) (Go.typeInfo t >>= q):=by show Df H P n g (Go.program >>= λp=>(match p.info? t with|some i=>(Pure.pure i:Sem TypeInfo)|none=>Go.stuck "no such type") >>= k) (Go.program >>= λp=>(match p.info? t with|some i=>(Pure.pure i:Sem TypeInfo)|none=>Go.stuck "no such type") >>= q);apply Rf.programIn;cases V:P.info? t with| none=>exact Rf.never (Db iW trivial)| some i=>exact h i V
def Rf.zeroValue(N:Ie P)(t):Df H P n (A2 n) (Go.zeroValue t) (Go.zeroValue t):=by refine Rf.typeInfoIn t λi V=>?_;cases h:i.8 with|none=>exact Rf.unsup|some z=>exact Rf.pure (N t i z V h n).symm
def Rf.alloc(N:Ie P)(e b x):Df H P n (A2 n) (Instr.alloc e b x) (Instr.alloc e b (A2 n x)):=by refine Rf.bind (Rf.zeroValue N e) λz=>?_;have K:Df H P n (A2 n) (do let a ←Go.newVar e z;Pure.pure (Value.pointer (je a))) (do let a ←Go.newVar e (A2 n z);Pure.pure (Value.pointer (je a))):=Rf.bind (Rf.newVar _ _) λ_=>Rf.pure Ae;cases b with|true=>cases x<;>simpa using K|false=>cases x with|pointer a=>(cases a with|none=>simpa using K|some a=>simp[A8,aI];exact Rf.bind (Rf.storeVar _ _ _) λ_=>Rf.pure Ae)|_=>simpa using K
def Rf.box(e x):Df H P n (A2 n) (Instr.box e x) (Instr.box e (A2 n x)):=Rf.bind (Rf.newVar _ _) λ_=>Rf.pure Ae
def OZ(off):∀(l:List (O×Nat)) (cs:iJ),(l.map λx=>(A2 n x.1,x.2)).foldl (λcs x=>cs.setIfInBounds (off+x.2) x.1) (cs.map (A2 n))=(l.foldl (λcs x=>cs.setIfInBounds (off+x.2) x.1) cs).map (A2 n)
 |[],cs=>rfl|x::l,cs=>by simp[bF,fR];rw[←OZ off l,Array.map_setIfInBounds]
def Rj(a:Nat->Option (Nat×Nat)):∀c (cs:iJ),yk a (cs.map (A2 n)) (c.map λx=>(x.1,A2 n x.2))=(yk a cs c).map (sx (A2 n))
 |[],cs=>rfl|(i,x)::c,cs=>by simp only[bF,yk];cases a i with|none=>rfl|some f=>have ⟨off,d⟩:=f;simp only[Ku,hQ];split;rfl;rw[←Rj a c];congr 1;rw[←fX,←fX,←OZ off];congr 1;simp[Array.toList_zipIdx,List.zipIdx_map]
def Rf.build(N:Ie P)(t a):Df H P n (A2 n) (Instr.build t a) (Instr.build t (a.map λx=>(x.1,A2 n x.2))):=by refine Rf.bind (Rf.zeroValue N t) λz=>?_;refine Rf.bind (Rf.underlying t) λd=>?_;simp[id,Ku,bS];cases d with|struct L=>have b:Df H P n _ _ ((L.map id).mapM λf=>do let s ←Go.sizeOf f.2;Pure.pure (f.3,s)):=Rf.arrayMapM (g:=id) (λx=>by exact Rf.bind (Rf.sizeOf (P:=P) (n:=n) (H:=H) x.2) λs=>Rf.pure T) L;rw[Array.map_id]at b;refine Rf.bind b λu=>?_;rw[Array.map_id,Rj];exact Ilq|array k e=>refine Rf.bind (Rf.sizeOf _) λg=>?_;simp[id];rw[Rj];exact Ilq|_=>exact Rf.stuck
def Tm(N:z.map (A2 n)=z)(m):((fy m).map (z[· % z.size]!)).map (A2 n)=(fy m).map (z[· % z.size]!):=by rw[Array.map_map];refine yx λi V=>?_;simp[Function.comp];by_cases h:i % z.size<z.size;grind;rw[getElem!_neg z _ h];exact Cu n _
def Rf.zeroCellsOf(N:Ie P)(t){g:a->d}{k:O->Sem a}{q:O->Sem d}(h:∀z,A2 n z=z->Df H P n g (k z) (q z)):Df H P n g (Go.zeroValue t >>= k) (Go.zeroValue t >>= q):=by rw[Go.zeroValue,bind_assoc,bind_assoc];refine Rf.typeInfoIn t λi V=>?_;cases B:i.8 with|none=>exact Rf.never (Db T trivial)|some z=>exact h z (N t i z V B n)
def Sr{z}(h:A2 n z=z):z.cells.map (A2 n)=z.cells:=by rw[←Ku,h]
def Rf.buildSlice(N:Ie P)(t l b):Df H P n (A2 n) (Instr.buildSlice t l b) (Instr.buildSlice t l (b.map λx=>(x.1,A2 n x.2))):=by refine Rf.bind (Rf.underlying t) λd=>?_;simp only[id,bS];cases d with|slice e=>refine Rf.bind (Rf.sizeOf _) λa=>?_;simp only[id];split;exact Rf.never (Db T trivial);split;rw[pure_bind,pure_bind];have S:=Rj (n:=n) (λi=>je (i * a,a)) b.1 ((fy (l * a)).map ((#[]:iJ)[· % ((#[]:iJ)).size]!));rw[Tm Ae]at S;exact Zsy;refine Rf.zeroCellsOf N e λz B=>?_;rw[pure_bind,pure_bind];have S:=Rj (n:=n) (λi=>je (i * a,a)) b.1 ((fy (l * a)).map (z.cells[· % (z.cells).size]!));rw[Tm (Sr B)]at S;exact Zsy|_=>exact Rf.stuck
def Rf.extract(x i):Df H P n (A2 n) (su x i) (su (A2 n x) i):=by cases x with|tuple a=>(rw[Ci];unfold su;dsimp only;rw[aM];cases a[i]? with|none=>exact Rf.stuck|some x=>exact Rf.pure T)|_=>exact Rf.stuck
def Rf.field(t x i):Df H P n (A2 n) (Instr.field t x i) (Instr.field t (A2 n x) i):=by refine Rf.bind (Rf.underlying t) λu=>?_;simp[id];cases u with|struct L=>(dsimp only;cases L[i]? with|none=>exact Rf.stuck|some f=>exact Rf.bind (Rf.asAgg x) λ_=>Rf.part _ _ _)|_=>exact Rf.stuck
def Rf.index(t x i):Df H P n (A2 n) (Instr.index t x i) (Instr.index t (A2 n x) (A2 n i)):=by refine Rf.bind (Rf.asIntOf i) λf=>?_;refine Rf.bind (Rf.underlying t) λd=>?_;simp[id];cases d with|array b e=>(cases x with|agg cs=>simp[Cg];split;exact Rf.bind (Rf.sizeOf _) λ_=>Rf.part _ _ _;exact Rf.bp|_=>exact Rf.stuck)|string=>(cases x with|string s=>simp[Bj];split;exact Rf.pure Ae;exact Rf.bp|_=>exact Rf.stuck)|_=>cases x<;>exact Rf.stuck
def Rf.sliceBound(x y c):Df H P n id (Instr.sliceBound x y c) (Instr.sliceBound (A2 n x) y c):=by refine Rf.bind (Rf.asIntOf x) λa=>?_;simp[id];split;exact Rf.pure T;exact Rf.bp
def Rf.sliceBounds(b l c s V C):Df H P n id (oe b l c s V C) (oe b l c (s.map (A2 n)) (V.map (A2 n)) (C.map (A2 n))):=by cases C<;>cases V<;>cases s<;>simp[Option.map_none,aI, Option.isSome_some];all_goals repeat' first|exact Rf.stuck|exact Rf.pure T|refine Rf.bind (Rf.sliceBound _ _ _) (λ_=>?_)|refine Rf.bind (f:=id) (Rf.pure T) (λ_=>?_)|exact Rf.never _
end
section
variable {b a:Type} {P:jd} {n:Ren}
def PH(r):Lg P (Go.shape r):=λv h U Y=>by cases Y
def LN(a):Lg P (Go.frozen a):=λv h U Y=>by cases Y
def Rp(a l m)(b:iM)(x):Lg P (qk a l m b x):=by unfold qk Builtin.holdsCells;repeat' first|exact Iv _|exact PH _|exact LN _|refine Iu ?_ (λ_=>?_)|split|dsimp only
def Rf.loadAt(t a):Df H P n (A2 n) (Instr.loadAt t a) (Instr.loadAt t (A2 n a)):=Rf.bind (Rf.sureAddr a) λ_=>Rf.loadVar _ _
def Rf.storeAt(t a x):Df H P n id (Instr.storeAt t a x) (Instr.storeAt t (A2 n a) (A2 n x)):=Rf.bind (Rf.sureAddr a) λ_=>Rf.storeVar _ _ _
def Akb(a:iM)(k):(a.map (Ew n)).map (·.add k)=(a.map (·.add k)).map (Ew n):=by cases a<;>simp[Ld]
def Rf.slice(t x b V C):Df H P n (A2 n) (Instr.slice t x b V C) (Instr.slice t (A2 n x) (b.map (A2 n)) (V.map (A2 n)) (C.map (A2 n))):=by refine Rf.bind (Rf.underlying t) λd=>?_;cases d with|string=>(cases x with|string s=>simp[Bj,Option.isSome_map];split;exact Rf.never (Db T trivial);exact Rf.bind (Rf.sliceBounds vy s.size s.size b V zt) λ_=>Rf.pure Ae|_=>exact Rf.stuck)|slice e=>(cases x with|slice a f I=>simp only[Br];refine Rf.bind (Rf.sliceBounds jz f I b V C) λq=>Rf.bind (Rf.sizeOf _) λc=>Rf.pure ?_;simp only[id,Br];split;rfl;rw[Akb]|_=>exact Rf.stuck)|pointer g=>(refine Rf.bind (Rf.asAddr x) λa=>Rf.bind (Rf.underlying _) λd=>?_;cases d with|array k e=>refine Rf.bind (Rf.sliceBounds vy k k b V C) λq=>Rf.bind (Rf.sizeOf _) λc=>Rf.pure ?_;simp[id,Br,aI];split;rfl;rw[Ld]|_=>exact Rf.stuck)|_=>cases x<;>exact Rf.stuck
def Rf.sliceAt(t x s V C):Df H P n (A2 n) (Instr.sliceAt t x s V C) (Instr.sliceAt t (A2 n x) (s.map (A2 n)) (V.map (A2 n)) (C.map (A2 n))):=by refine Rf.bind (Rf.underlying t) λd=>?_;cases d with|array k e=>refine Rf.bind (Rf.sureAddr x) λa=>Rf.bind (Rf.sliceBounds vy k k s V C) λq=>Rf.bind (Rf.sizeOf _) λc=>Rf.pure ?_;simp[id,Br,aI];split;rfl;rw[Ld]|_=>exact Rf.slice _ _ _ _ _
def Rf.indexAt(t x i):Df H P n (A2 n) (Instr.indexAt t x i) (Instr.indexAt t (A2 n x) (A2 n i)):=by refine Rf.bind (Rf.asIntOf i) λf=>?_;refine Rf.bind (Rf.underlying t) λd=>?_;simp only[id];cases d with|array b e=>refine Rf.bind (Rf.sureAddr x) λa=>?_;rw[pure_bind,pure_bind];refine Rf.bind (Rf.underlying t) λM=>?_;simp[id];exact Cmg|slice e=>(cases x with|slice c b g=>(simp only[Br];rw[pure_bind,pure_bind];refine Rf.bind (Rf.underlying t) λM=>?_;cases c with|none=>exact Rf.bp|some a=>simp[aI];exact Cmg)|_=>exact Rf.never (Db T trivial))|_=>cases x<;>exact Rf.never (Db T trivial)
def Rf.makeSlice(N:Ie P)(t l c):Df H P n (A2 n) (Instr.makeSlice t l c) (Instr.makeSlice t (A2 n l) (A2 n c)):=by refine Rf.bind (Rf.underlying t) λd=>?_;cases d with|slice e=>refine Rf.bind (Rf.asInt l) λg=>Rf.bind (Rf.asInt c) λI=>Rf.bind (Rf.typeInfo e) λT=>?_;simp[id];split;split;exact Rf.never (Eh (J8 _));split;exact Rf.never (Eh (J8 _));exact Rf.never (Hi (P7 _) λ_=>Eh (J8 _));refine Rf.bind (Rf.askRoom _) λ_=>Rf.bind (Rf.sizeOf e) λa=>?_;simp[id];split;refine Rf.bind (f:=Ew n) ?_ λ_=>Rf.pure Ae;have:=Rf.newRow (P:=P) (n:=n) (H:=H) e ((fy ((IntKind.i64.wrap I).toNat * a)).map ((#[]:iJ)[· % (#[]:iJ).size]!));grind;refine Rf.zeroCellsOf N e λz B=>?_;refine Rf.bind (f:=Ew n) ?_ λ_=>Rf.pure Ae;have:=Rf.newRow (P:=P) (n:=n) (H:=H) e ((fy ((IntKind.i64.wrap I).toNat * a)).map (z.cells[· % z.cells.size]!));rwa[Tm (Sr B)]at this|_=>exact Rf.stuck
def Rf.lenOf(x):Df H P n id (Builtin.lenOf x) (Builtin.lenOf (A2 n x)):=by cases x with|slice a l c=>rw[Br];exact Rf.pure T|string s=>rw[Bj];exact Rf.pure T|_=>exact Rf.stuck
def Rf.firstCells(s k x):Df H P n (sx (A2 n)) (yr s k x) (yr s k (A2 n x)):=by cases x with|slice a l c=>(rw[Br];cases a with|none=>exact Rf.pure Ae|some a=>exact Rf.loadCells _ _)|string s=>rw[Bj];exact Rf.pure (by simp[cY])|_=>exact Rf.stuck
def Rf.copy(L t)(X:iJ):Df H P n (A2 n) (pj L t X) (pj L t (X.map (A2 n))):=by unfold pj;simp[aM];cases L[0]? with|none=>exact Rf.stuck|some d=>cases X[0]? with|none=>exact Rf.stuck|some x=>cases X[1]? with|none=>exact Rf.stuck|some f=>simp[aI];refine Rf.bind (Rf.underlying d) λu=>?_;simp[id];cases u with|slice e=>(simp only;cases x with|slice a l c=>(simp[Br];refine Rf.bind (Rf.lenOf f) λk=>Rf.bind (Rf.sizeOf e) λg=>Rf.bind (Rf.firstCells _ _ _) λcs=>?_;simp[id];cases a with|none=>exact Rf.pure O5|some b=>simp[aI,bS];exact Rf.bind (Rf.storeCells _ _ _) λ_=>Rf.pure O5)|_=>exact Rf.stuck)|_=>exact Rf.stuck
def Ud(N:z.map (A2 n)=z)(m):(zc z m).map (A2 n)=zc z m:=Tm N _
def Rf.underlyingIn(t){g:a->d}{k:TypeDesc->Sem a}{q:TypeDesc->Sem d}(h:∀b,P.underlying t=je b->Df H P n g (k b) (q b)):Df H P n g (Go.underlying t >>= k) (Go.underlying t >>= q):=by show Df H P n g (Go.program >>= λp=>(match p.underlying t with|some i=>(Pure.pure i:Sem TypeDesc)|none=>Go.stuck "no such type") >>= k) (Go.program >>= λp=>(match p.underlying t with|some i=>(Pure.pure i:Sem TypeDesc)|none=>Go.stuck "no such type") >>= q);apply Rf.programIn;cases V:P.underlying t with| none=>exact Rf.never (Db iW trivial)| some i=>exact h i V
def YL(N:Ie P)(e)(I a:iJ)(m){z}(h:A2 n z=z):Df H P n (Ew n) (Go.newRow e (I++a++zc z.cells m)) (Go.newRow e (I.map (A2 n)++a.map (A2 n)++zc z.cells m)):=by have:=Rf.newRow (P:=P) (n:=n) (H:=H) e (I++a++zc z.cells m);rwa[dQ,dQ,Ud (Sr h)]at this
def Rf.append(N:Ie P)(L t)(X:iJ)(E:∀j,L[1]?=je j->∀k,P.underlying j≠je (.int k)):Df H P n (A2 n) (tv L t X) (tv L t (X.map (A2 n))):=by unfold tv;simp only[aM];cases L[0]? with|none=>exact Rf.stuck|some d=>cases X[0]? with|none=>exact Rf.stuck|some s=>cases X[1]? with|none=>exact Rf.stuck|some f=>simp only[aI];refine Rf.bind (Rf.underlying d) λu=>?_;simp only[id];cases u with|slice e=>(simp only;cases s with|slice a l c=>(simp only[Br];refine Rf.bind (Rf.sizeOf e) λg=>?_;simp only[id];cases C:L[1]? with|none=>simp only[pure_bind,aX,↓reduceIte,Bool.not_false,false_or];refine Rf.bind (Rf.lenOf f) λm=>?_;simp only[id];split;exact Zj2;exact Yjf|some j=>simp only;refine Rf.underlyingIn j λU q=>?_;cases U;(case int k=>exact absurd q (E j C k));all_goals simp only[pure_bind,aX,↓reduceIte,Bool.not_false,false_or];refine Rf.bind (Rf.lenOf f) λm=>?_;simp only[id];split;exact Zj2;exact Yjf)|_=>exact Rf.stuck)|_=>exact Rf.stuck
end
end Go.Pair

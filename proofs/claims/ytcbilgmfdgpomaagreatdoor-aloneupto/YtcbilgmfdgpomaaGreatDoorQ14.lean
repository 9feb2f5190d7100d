import Derived.Test.YtcbilgmfdgpomaaGreatDoorQ13
open List renaming length → iK
open Array renaming size → iL
set_option maxHeartbeats 2000000
set_option maxRecDepth 8000
set_option linter.all false
open Option renaming some → lj,none → jh
open Go.Proofs.Tryz renaming prog → y7
open Go renaming Value → uo,World → gk,heap_alloc_new → iw,Goroutine → vr,FuncId → x8,undef → qp,Oper → ox,yielded → iu,results_tmp → zx,keyOf → ye,TypeId → q9,Value → Z
open Bool renaming false → sd,true → km
open Go.Value renaming pointer → pdw,slice → qh,bool → gd,int → uu,string → pc,tuple → js,agg → faj
open Go.Region renaming wanted → qy
open Go.Lit renaming int → eg5
open Go.Conc renaming events_results_tmp → vk3,events_results_none → jil
open Go.MapKept renaming Stamped → qn
open Go.Obj renaming cells → oh
open Go.IntKind renaming i64 → gh,u8 → qg
open Go.Ending renaming returned → k8
open Or renaming inl → r7,inr → kr
open Go.Proofs.YtcbilgmfdgpomaaGreatDoor renaming cellOf → S,Ax → Y
open Go.Proofs.Tryz Orch
variable {C D H I K M T b i j m n sm xb y yb:Nat}{F:vr->gk->Prop}{O P e u v w:gk}{R:iA}{U cs:gY}{W q:gT}{X c:gV}{bv x:Z}{cu:Nat->Z×Z}{d f fa:hU}{g:Array ox}{h:gS}{k s:Int}{ob:hY}{p:Prop}{r:gR}{t:Bool}{z:gX}
def Oyh(h:p:=by
 rwa[aD Ae,aD Ae]):p:=h
def P0t(h:p:=by
 refine Aw ?_;refine A0 ?_;refine Ar ?_;walk_nrm;refine Au ?_;simp only[A1,As];exact Dt ⟨.inr iI,iI,g,G,d,f,a,by rw[s];rfl,a8,aa,hR⟩):p:=h
def C80{q:Prop}(k:q)(h:Hd q->p:=by
 intro kz;refine Aw ?_;refine A0 ?_;refine Dk (#[Value.pointer (some ⟨D,0,none⟩)]) 89 ?_;walk_nrm;have H:=Ba u #[Value.pointer (some ⟨D,0,none⟩)] 89 iH;have E:(u.alloc (.cells #[.pointer (some ⟨D,0,none⟩)] 89)).1[u.1.size]?=some (.cells #[.pointer (some ⟨D,0,none⟩)] 89):=heap_alloc_new _ _;generalize u.alloc (.cells #[.pointer (some ⟨D,0,none⟩)] 89)=Z at H E⊢;revert Z H E;exact kz.1):p:=h ⟨k⟩
def Odz{q:Prop}(k:q)(h:Hd q->p:=by
 intro kz;refine Dk (#[Value.pointer none]) 89 ?_;walk_nrm;have J:=Ba Z #[Value.pointer none] 89 iH;have b2:(Z.alloc (.cells #[.pointer none] 89)).1[Z.1.size]?=some (.cells #[.pointer none] 89):=heap_alloc_new _ _;generalize Z.alloc (.cells #[.pointer none] 89)=A at J b2⊢;refine We Z.1.size D b2 iI Ac (B7 Ab) iI Ac Ac ?_;revert A J b2;exact kz.1):p:=h ⟨k⟩
def Pzx(h:p:=by
 have N:=c.size;exact⟨_,_,Y L,⟨by rw[N],by rw[←N];exact heap_alloc_new _ _⟩,Ax.of_below (Bf _ _) (aC _)⟩):p:=h
def Heq(h:p:=by
 split
 ·simp only[aK,Orch.be_length];omega
 ·simp only[aK,Orch.be_length];omega):p:=h
namespace Go.Proofs.YtcbilgmfdgpomaaGreatDoor
variable {A:SA}{B l:List AS}{L:List Fl}{N:SI}{Q:Exit->Act->gk->Prop}{a o:ST}
open Go Go.Conc Go.Pair Go.RowKit Go.Maps
def XV(w z b)(M:w.cell? (iD z 5)=lj (gd b)):Calls y7 39 #[iB z] w λe B=>e=k8 (gd b)/\B=w:=by
 exact Wsr
section
variable {G:Nat->Z×Z}
variable {J:gW}
def Ym(W:VW J c u)(z)(G:gY)(b)(q:u.1[z]?=lj (oh G 95))(M:G[5]?=lj (gd b))(d:¬c z):Bg y7 km J F 39 #[iB z] u λx O=>Y u O iH/\VW J c O/\x=gd b:=
 Bq (Gg Ae W (R:=λx _=>x=gd b) (λ_ _ a=>a) λL s=>(XV L z b (S (j:=5) ((s.same d).trans q) M)).mono λe B a=>⟨⟨_,a.1,iI⟩,by rw[a.2];exact Y.refl _ _⟩) λx Z a=>⟨a.1,a.2.1,Aj⟩
set_option maxRecDepth 8000 in
set_option maxHeartbeats 1000000 in
theorem All(W:It h z)(C:Cx z y J c u)(t:TlU y J u){A:SA}{a:ST}{b:Option Addr}{L:Nat}{se:List SI}(d:Full G h J c y u A a b L se)(a1:Aaz se)(i:Nat)(N:SI)(V:se[i]? = some N)(f:List UInt8)(ab:f.length<=1000)(T:Value)(ad:BsB c u T f)(ae:N.en=false->a.down=false->(N.ver=0/\f = [0,0,0,1])∨(N.ver=1/\OZ a/\∀a6,Il h f=some a6->TV h z y A.tb A.mb a.num a.ns a6))(ob M:Nat)(s:u.heap[ob]? = some (.cells #[.pointer (some ⟨N.b,0,none⟩)] 79))(af:¬c ob)(p:u.heap[M]? = some (.cells #[.pointer (some ⟨A.svb,0,none⟩)] 68))(R:¬c M) :
  Bg Tryz.prog true J F 47 #[T,.pointer (some ⟨ob,0,none⟩),.pointer (some ⟨M,0,none⟩)] u fun x O=>x=.tuple #[]/\VW J c O/\∃m o I w,Full G h J c y O A m o I w/\E5 u O A b o se w/\Abj h f i a (se.map SI.abs) m (w.map SI.abs):=by
 obtain⟨q,_,_⟩:=d.ses.one i N V
 have X:=q.j 4 Ae Ae
 have U:∀k,¬J (.cell ⟨ob,k,none⟩):=fun k e=>af (C.W.ji _ e)
 have v:∀k,¬J (.cell ⟨M,k,none⟩):=fun k e=>R (C.W.ji _ e)
 have g:(se.map SI.abs)[i]? = some N.abs:=by rw [List.getElem?_map,V];rfl
 have r:=q.cell.2.2.1
 refine Bl Tryz.func47 Ac rfl (R:=fun _=>.tuple #[]) (fun _ _=>results_none Ac _ _ _) (fun _ _=>events_results_none Ac _ _) ?_
 simp only [Tryz.ntmps47,na,Nat.reduceAdd,Nat.reduceSub]
 refine Wqw ?_
 refine Bp (cellOf (j:=0) s rfl) (U 0) ?_;walk_nrm
 refine Wad ?_
 cases l:N.en with
 | true=>
  rw [l] at r
  refine Bp r X ?_;walk_nrm
  refine Wad ?_
  iterate 3(refine Lgl ?_)
  refine Keu ?_
  refine Fhg ?_
  refine B6 ⟨.inl rfl,rfl,trivial,C.W,a,b,L,se,d,E5.kf (Ax.refl _ _),N.abs,g,?_⟩
  rw [if_pos (.inl l)]
  exact⟨rfl,rfl⟩
 | false=>
  rw [l] at r
  refine Bp r X ?_;walk_nrm
  refine Wad ?_
  refine Bp (cellOf (j:=0) p rfl) (v 0) ?_;walk_nrm
  refine A2 (Ym C.W A.svb _ a.down d.srv.V.hv rfl d.srv.V.nv) rfl Ac rfl Af ?_
  rintro x Z ⟨H,P,rfl⟩
  walk_nrm
  have S:=d.kf H
  have n:=C.kx H P fun _ e=>e.elim
  cases j:a.down with
  | true=>
   refine Wad ?_
   refine Rgq ?_
   refine B6 ⟨.inl rfl,rfl,trivial,P,a,b,L,se,S,E5.kf H,N.abs,g,?_⟩
   rw [if_pos (.inr j)]
   exact⟨rfl,rfl⟩
  | false=>
   refine Wad ?_
   refine C7u ?_
   refine A0 ?_
   refine Bp (cellOf (j:=0) (H.get p id) rfl) (v 0) ?_;walk_nrm
   refine Bp (cellOf (j:=0) (H.get s id) rfl) (U 0) ?_;walk_nrm
   refine V2g ?_
   have a7:¬(N.abs.en=true∨a.down=true):=by
    have:N.abs.en=false:=l
    rw [this,j]
    simp
   have a8:=ad.kx H fun _ e=>e.elim
   rcases ae l j with⟨E,rfl⟩|⟨E,ah,D⟩
   ·refine A2 (Al8 W n S a1 i N V E T a8) rfl Ac rfl Af ?_
    rintro x B ⟨rfl,K,w,Y,Q,aa⟩
    walk_nrm
    refine Au ⟨.inl rfl,rfl,trivial,K,a,b,L,w,Y,(E5.kf H).trans Q,N.abs,g,?_⟩
    rw [if_neg a7,if_pos (show N.abs.ver=0 from E)]
    exact⟨rfl,aa⟩
   ·refine A2 (Apb W n (t.kx H C.g8 C.sz fun _ e=>e.elim) S a1 ah i N V E f ab T a8 D) rfl Ac rfl Af ?_
    rintro x B ⟨rfl,K,m,o,I,w,Y,Q,aa⟩
    walk_nrm
    refine Au ⟨.inl rfl,rfl,trivial,K,m,o,I,w,Y,(E5.kf H).trans Q,N.abs,g,?_⟩
    rwa [if_neg a7,if_neg (show ¬N.abs.ver=0 by show ¬N.ver=0;rw [E];decide)]
end
structure Wy(valid:gS)(p):Prop where
 pa:Lk p=km
 ps:p.size<=200
 pv:valid p=km
 sl:Eb p=km
 nm:(Hx p).size<=24/\valid (Hx p)=km
 par:(Ej p).size<=200/\valid (Ej p)=km
section
variable {tb t:Nat} {num:Int} {r:List (gU×Nd)} {a:Rq}
def SF(l:h iG=km)(o:8<=y)(f:Rr num r)(E:1<=a.kind)(Q:a.kind<=6->Wy h a.p)(g:a.kind<=3->a.d.size<=40):TV h z y tb t num r a:=by
 refine⟨λT d V G=>?_,λT M=>?_,λq i d V G=>?_⟩
 ·have P:=Q Aa;have s:=g T;obtain⟨m,L⟩:=G.ml;have C:1<iL d.1:=by have:=G.size;omega
  have B:=P.ps;have F:a.kind=1∨a.kind=2∨a.kind=3:=Aa;rcases F with b|b|b
  ·have e:Hi a.kind r a.p a.d a.ver=BY r a.p:=by unfold Hi;rw[aL b,aL P.pa,aL s]
   rw[e,b];exact WU V m L C a.p a.d iG a.ver Aa P.pa Aa Ae P.sl
  ·have e:Hi a.kind r a.p a.d a.ver=X5 r a.p a.ver:=by
    unfold Hi;rw[aM Aa,aL b];by_cases Y:a.p=⟨#[47]⟩
    ·rw[aL Y];unfold X5;rw[aL Y]
    ·rw[aM Y,aL P.pa]
   rw[e,b];exact WW V m L C a.p a.d iG a.ver Aa P.pa Aa Ae (by have:=f.len;omega) f.size
  ·have e:Hi a.kind r a.p a.d a.ver=BZ r a.p a.ver:=by unfold Hi;rw[aM Aa,aM Aa,aL P.pa,aL s]
   rw[e,b];exact WY V m L C a.p a.d iG a.ver Aa P.pa Aa Ae
 ·have P:=Q Aa;have s:=g T;refine⟨?_,P.pa,P.ps,P.pv,P.sl,s,Ae,l,P.nm,P.par⟩;have F:a.kind=1∨a.kind=2∨a.kind=3:=Aa;rcases F with b|b|b
  ·rw[b]at M⊢;unfold Hi at M;rw[aL iI,aL P.pa,aL s]at M;unfold BY at M;cases c:Fi r a.p with
   |some x=>grind
   |none=>
    rw[c]at M;refine⟨Hy c,?_⟩
    grind
  ·rw[b]at M⊢;unfold Hi at M;rw[aM Ae,aL iI]at M;split at M
   ·simp at M
   ·rename_i Y;rw[aL P.pa]at M;unfold X5 at M;rw[aM Y]at M;cases c:Fi r a.p with
    |some x=>exact⟨x,F9 c⟩
    |none=>grind
  ·rw[b]at M⊢;unfold Hi at M;rw[aM Ae,aM Ae,aL P.pa,aL s]at M;unfold BZ at M;cases c:Fi r a.p with
   |some x=>exact⟨x,F9 c⟩
   |none=>grind
 ·have P:=Q i;obtain⟨m,L⟩:=G.ml;have C:1<iL d.1:=by have:=G.size;omega
  have B:=P.ps;unfold Gt;rw[aL P.pa];cases c:Fi r a.p with
  |some x=>exact Sq V m L C a.p Aa P.pa x (F9 c)
  |none=>exact Zm V m L C a.p Aa P.pa (Hy c)
end
inductive Ij(valid i):List (gT)->ST->List AS->ST->List AS->Prop
 |nil (σ) (l):Ij valid i [] σ l σ l
 |cons {b:gT} {r:gR} {σ σ1 σ2} {l l1 l2}:Abj valid b i σ l σ1 l1->Ij valid i r σ1 l1 σ2 l2->Ij valid i (b::r) σ l σ2 l2
def Ij.snoc{a}{W:gR}{c b e T Z}(h:Ij a i W b l e B)(D:Abj a c i e B T Z):Ij a i (W++[c]) b l T Z:=by
 induction h with
 |nil b l=>exact .cons D (.nil _ _)
 |cons C _ O=>exact .cons C (O D)
structure FT(l):Prop where
 h8:iK l<=8
 ord:(l.map AS.k).Pairwise (·<=·)
 kw:∀p∈l,ye y7 3 (iE p.k)=lj (eg5 gh p.k)/\(eg5 gh p.k).wf=km
 lo:∀p∈l,iK p.lo<=9000000000
def FT.se{se}(h:FT (se.map SI.abs)):Aaz se:=
 ⟨by simpa using h.h8,by simpa[cW,dT,SI.abs] using h.ord,λp Q=>h.kw p.abs (cX Q),λp Q=>h.lo p.abs (cX Q)⟩
structure Yx(valid Tabs)(gN tb mb i:Nat)(b:gT)(σ)(l):Prop where
 len:iK b<=1000
 ok:FT l
 req:∀a,l[i]?=lj a->a.en=sd->σ.down=sd->(a.ver=0/\b = [0,0,0,1])∨(a.ver=1/\OZ σ/\∀r,Il valid b=lj r->TV valid Tabs gN tb mb σ.num σ.ns r)
def Lg(cu:Nat->Z×Z)(b:Nat)(x:Z×Z):Nat->Z×Z:=λi=>if i=b then x else cu i
def Ji(L:Nat->Z×Z)(b x):Lg L b x b=x:=aL iI
def Iw(L:Nat->Z×Z)(x)(h:i≠b):Lg L b x i=L i:=aM h
structure EIn(cu:Nat->uo×uo)(valid Tabs gN Bs v A)(σ)(fa fc se)(i:Nat)(p0 pv)(q:gT)(ob:hY)(Cz cap)(bs:gT)(xb yb:Nat):Prop where
 C:Cx Tabs gN Ec Bs v
 F:Full cu valid Ec Bs gN v A σ fa fc se
 hi:se[i]?=lj p0
 hcu:cu p0.b=(pv,gd sd)
 own:v.ownsRow 0 5 1 pv (iK q) (A4 q)
 ints:IntsIn v pv
 pg:∀g,pv.ownBlock=lj g->gN<=g/\¬Bs g/\¬Hg se g
 brow:∀bb,ob=lj bb->gN<=bb/\¬Bs bb/\¬Hg se bb/\pv.ownBlock≠lj bb/\∃c fz,v.1[bb]?=lj (oh c 5 fz)/\Jf c
 oA:∀bb,ob=lj bb->¬A.has fa bb
 oD:∀bb,ob=lj bb->bb≠A.D
 len:iK bs<=cap
 bby:bs≠[]->∃bb,ob=lj bb/\Bytes v bb Cz bs
 glob:∀i,i<8->∃c e fz,v.1[i]?=lj (oh c e fz)
 hxb:v.1[xb]?=lj (oh #[iB p0.b] 79)
 hyb:v.1[yb]?=lj (oh #[iB A.1] 68)
 nxb:¬Bs xb
 nyb:¬Bs yb
 oxb:¬(A.has fa xb∨Hg se xb)
 oyb:¬(A.has fa yb∨Hg se yb)
section
variable {G:Nat->Z×Z} {J J':gW} {se:List SI} {a:Z} {L:Nat} {d R:Nat} {E:gR} {Post:PA y z} {B2:gV} {e:gT}
def Full.reJ(F:Full G h J c y u A o f m se)(W:∀b k,y<=b->k≠1->k≠2->¬J' (.cell (iD b k))):Full G h J' c y u A o f m se:=
 ⟨F.1,⟨λj p Q=>⟨let S:=(F.ses.one j p Q).1;⟨S.inb,λk=>W p.b k (F.ses.one j p Q).2.1,S.row,S.own,S.ap,S.tl⟩,(F.ses.one j p Q).2⟩,F.ses.apart⟩,F.map⟩
def Jn(w B):Y w (Bb B w) B:=by
 exact K4f
def NW(w:gk)(b):Bytes { w with heap:=w.1.push (oh (rowOf b) 5 (0,0)) } w.1.size 0 b:=λj l=>by
 simp[rowOf,A4,l]
def EIn.eachIn(E:EIn G h z y c v A o f m se i N a q ob K L W d R):∃H,Ds Ec v N.b 1 84 H a q ob K L W/\H.size=6:=by
 have ⟨S,I,p⟩:=E.F.ses.one i N E.hi;have ⟨g,b,l,_⟩:=S.row;have ⟨P,O⟩:=S.tl g b;rw[E.4]at P O;have r:=E.C.g8;exact⟨g,⟨E.glob,b,P,O,E.own,E.ints,Aa,λj k=>⟨by have:=(E.pg j k).1;omega,λe=>(E.pg j k).2.1 (e▸S.inb),λe=>(E.brow j e).2.2.2.1 k⟩,λX D=>⟨by have:=(E.brow X D).1;omega,λe=>(E.brow X D).2.1 (e▸S.inb),let⟨g,n,C,J⟩:=(E.brow X D).2.2.2.2;⟨g,5,n,C,J⟩⟩,E.len,E.bby,⟨λ_ b=>b,λ_ b=>b.elim⟩⟩,l⟩
def EIn.off(E:EIn G h z y c v A o f m se i N a q ob K L W d R):∀j,Ls v.1.size ob a.ownBlock j∨j=iL v.1+2->y<=j/\¬c j/\¬A.has f j/\¬Hg se j/\j≠A.D/\j≠d/\j≠R:=by
 have p:=E.C.sz;have r:=ltOf E.F.1.7;have Z:=ltOf E.14;have U:=ltOf E.15;have g:∀j,iL v.1<=j->y<=j/\¬c j/\¬A.has f j/\¬Hg se j/\j≠A.D/\j≠d/\j≠R:=λj l=>⟨Aa,λb=>by have:=E.C.W.lt b;omega,λb=>by have:=E.F.lt (r7 b);omega,λb=>by have:=E.F.lt (kr b);omega,Aa,Aa,Aa⟩
 rintro j((rfl|rfl|rfl|rfl|b|b)|rfl)
 ·grind
 ·exact g _ Aa
 ·exact g _ Aa
 ·exact g _ Aa
 ·obtain⟨C,J,T,s,n,t,k,_⟩:=E.brow j b;exact⟨C,J,E.9 j b,T,E.oD j b,λe=>(by subst e;rw[E.14]at k;cases k),λe=>(by subst e;rw[E.15]at k;cases k)⟩
 ·obtain⟨C,J,T⟩:=E.pg j b;obtain⟨n,M⟩:=Hz E.own b;refine⟨C,J,λe=>?_,T,λe=>(by subst e;rw[E.F.1.7]at M;cases M),λe=>(by subst e;rw[E.14]at M;cases M),λe=>(by subst e;rw[E.15]at M;cases M)⟩;obtain⟨u,S,_,Y⟩:=E.F.1.obj E.F.map e;rw[M]at S;exact Y n (aB S).symm
 ·exact g _ Aa
def IE(G:Nat->Z×Z)(h:gS)(z:gX)(y:Nat)(J:gW)(c:gV)(u0:gk)(A:SA)(o:ST)(f:hU)(se:List SI)(i:Nat)(E:gR)(ms:gR)(v':gk):Prop:=
 ∃done σ' fa' fc' Fu,E=done++ms/\Ij h i done o (se.map SI.abs) σ' (Fu.map SI.abs)/\Cx z y J c v'/\Full G h J c y v' A σ' fa' fc' Fu/\E5 u0 v' A f fa' se Fu/\TlU y J v'
def Zy{se w:List SI}(h:(w.map λp=>(p.k,p.b))=se.map λp=>(p.k,p.b)){p}(V:se[i]?=lj p):∃u,w[i]?=lj u/\u.b=p.b/\u.k=p.k:=by
 have:=aJ (·[i]?) h
 grind
def EIn.start(E:EIn G h z y c v A o f m se i N a q ob K L W d R){b e}(j:Fc v N.b 1 b e u):Cx z y (JAE N.b 1 v.1.size) c (Bb (Ls v.1.size ob a.ownBlock) u)/\Full G h (JAE N.b 1 v.1.size) c y (Bb (Ls v.1.size ob a.ownBlock) u) A o f m se/\Y v (Bb (Ls v.1.size ob a.ownBlock) u) (Ls v.1.size ob a.ownBlock):=by
 have p:Y v _ (Ls v.1.size ob a.ownBlock):=(j.K.mono λ_ j=>j.elim).trans (Jn u _);obtain⟨S,_,_⟩:=E.F.ses.one i N E.hi;have r:=E.C.W.ofK p (λn l D=>(E.off n (r7 D)).2.1 l) λ_ j=>j.elim;have s:VW (JAE N.b 1 v.1.size) c (Bb (Ls v.1.size ob a.ownBlock) u):=by
  refine⟨r.rows,?_,?_,?_⟩
  ·rintro w(j|j|j)
   ·cases j;exact S.inb
   ·cases j;exact S.inb
   ·cases j
  ·rintro x(C|C|C)
   ·cases C
   ·cases C
   ·cases C;refine⟨_,(Jn u _).get j.b2 ?_,iI⟩;rintro(k|k|k|k|k|k)
    ·omega
    ·omega
    ·omega
    ·omega
    ·obtain⟨_,_,_,_,F,H,t,_⟩:=E.brow _ k;have:=ltOf t;omega
    ·have:=Cm E.own k;omega
  ·rintro M(j|j|j)<;>cases j
 have B:=E.C.kx p r λn l=>(E.off n (r7 l)).1;refine⟨⟨s,B.G,B.3,B.sz,B.g8⟩,(E.F.kx p (λn l D=>?_) λD=>(E.off _ (r7 D)).2.2.2.2.1 iI).reJ λO P _ C J=>?_,p⟩
 ·obtain⟨_,_,g,I,_⟩:=E.off n (r7 D);exact l.elim g I
 ·rintro(j|j|j)
  ·cases j;exact C iI
  ·cases j;exact J iI
  ·cases j
def EIn.cb(U:It h z)(p:EIn G h z y c v A o f m se i N a q ob K L W d R)(D:¬B2 d)(I:¬B2 R)(M:P.1[d]?=lj (oh #[iB N.b] 79))(O:P.1[R]?=lj (oh #[iB A.1] 68))(l:∀j e r n V,E=j++e::r->Ij h i j o (se.map SI.abs) n V->Yx h z y A.tb A.5 i e n V):Aat J 47 #[iB d,iB R] (IE G h z y J B2 P A o f se i E):=by
 rintro e r x⟨j,T,ab,ad,ae,u,w,C,F,k,t⟩af;have B:=l j e r T _ u w;obtain⟨H,X,Y,ah⟩:=Zy k.kb p.hi;have g:Ax x { x with heap:=x.1.push (oh (rowOf e) 5 (0,0)) } iH:=Ba x (rowOf e) 5 _;have S:=g.get (k.K.get M p.18) id;rw[←Y]at S;apply Bq (All U (C.kx g (C.W.alloc (rowOf e) 5) λ_ b=>b.elim) (t.kx g C.g8 C.sz λ_ b=>b.elim) (F.kf g) B.ok.se i H X e B.len _ ⟨iL x.1,0,iK e,iI,aC _,Ad,(λb=>by have:=C.W.lt b;omega),NW x e⟩ (B.3 H.abs (by simp_all)) d R S D (g.get (k.K.get O p.19) id) I);rintro ai aj⟨rfl,Z,a1,a6,a7,s,a8,Q,aa⟩;exact⟨iI,j++[e],a1,a6,a7,s,by rw[u];simp,w.snoc aa,C.kx ((g.mono λ_ b=>b.elim).trans Q.K) Z λ_ b=>F.ge b,a8,k.trans ((E5.kf g).trans Q),(t.kx g C.g8 C.sz λ_ b=>b.elim).kx Q.K C.g8 (aE C.sz g.size) λ_ b=>F.ge b⟩
def Gi.reCu{cu':Nat->Z×Z}{num K en t s}(S:Gi G J c u D num K en t s)(h:cu' D=G D):Gi cu' J c u D num K en t s:=⟨S.inb,S.j,S.row,S.own,S.ap,by rw[h];exact S.tl⟩
def Tn.cutter(h:Tn G J c y u se)(V:se[i]?=lj N)(K:Ax u O X){x b}(C:u.1[N.b]?=lj (oh cs 84))(d:O.1[N.b]?=lj (oh ((cs.setIfInBounds 1 x).setIfInBounds 2 (gd b)) 84))(t:∀j,Hg se j->j≠N.b->¬X j):Tn (Lg G N.b (x,gd b)) J c y O se:=by
 obtain⟨q,I,o⟩:=h.one i N V;refine⟨λj p Q=>⟨?_,(h.one j p Q).2⟩,h.apart⟩;obtain⟨S,_,_⟩:=h.one j p Q;have Y:∀g,p.6.ownBlock=lj g->¬X g:=λg a=>t g ⟨j,p,Q,kr a⟩ λe=>S.ap g a (e▸q.inb);by_cases W:i=j
 ·subst W;rw[V]at Q;obtain rfl:=aB Q;obtain⟨m,M,k,c0,r,n,l⟩:=S.row;rw[C]at M;cases M;refine⟨S.inb,S.j,⟨_,d,by simp[k],?_,?_,?_,?_⟩,Dh S.own λg a=>K.block g (Cm S.own a) (Y g a),S.ap,λs U=>?_⟩
  ·exact Oyh
  ·exact Oyh
  ·exact Oyh
  ·exact Oyh
  ·rw[d]at U;cases U;rw[Ji,aD Ae,aQ Aa,aQ Ah];exact⟨iI,iI⟩
 ·have f:p.b≠N.b:=λe=>(h.apart i j N p V Q W).1 e.symm;exact(S.kx K (t _ ⟨j,p,Q,r7 iI⟩ f) Y).reCu (Iw G _ f)
def Full.cutter(F:Full G h J c y u A o f m se)(V:se[i]?=lj N)(K:Y u O X){x b}(C:u.1[N.b]?=lj (oh cs 84))(a:O.1[N.b]?=lj (oh ((cs.setIfInBounds 1 x).setIfInBounds 2 (gd b)) 84))(t:∀j,A.has f j∨Hg se j->j≠N.b->¬X j)(W:¬X A.D):Full (Lg G N.b (x,gd b)) h J c y O A o f m se:=by
 have off:∀j,A.has f j->j≠N.b:=λj l e=>F.1.offS F.map F.ses l ⟨i,N,V,r7 e⟩;have s:A.has f A.sm:=kr (kr (kr (kr (kr (kr iI)))));exact⟨F.1.kx K (λj l=>t j (r7 l) (off j l)) W,F.ses.cutter V K C a λj l=>t j (kr l),F.map.of_block (K.block _ F.map.lt (t _ (r7 s) (off _ s)))⟩
def Full.reB(H:Full G h J c y u A o f m se)(a:∀i,y<=i->(B2 i↔c i)):Full G h J B2 y u A o f m se:=by
 have S:=H.1;have n:∀i,y<=i->¬c i->¬B2 i:=λi l z D=>z ((a i l).1 D);exact⟨⟨⟨S.V.1,n _ S.gv S.V.nv,S.V.ht,n _ S.gt S.V.4,n _ S.gm S.V.nm,S.V.6,S.V.z2⟩,S.2,S.3,S.hw,S.5,S.6,S.7,S.st,S.9,S.l1,n _ S.gw S.nw,n _ S.gs S.12,n _ S.gD S.nD,n _ S.gK S.nK,λg e=>n g (S.gf g e) (S.nf g e),S.gv,S.gt,S.gm,S.gw,S.gs,S.gD,S.gK,S.gf,S.wmb,S.wsm,S.mbs⟩,⟨λi p Q=>⟨let T:=(H.ses.one i p Q).1;⟨(a _ (H.ses.one i p Q).2.1).2 T.inb,T.j,T.row,T.own,λg e=>n g ((H.ses.one i p Q).2.2 g e) (T.ap g e),T.tl⟩,(H.ses.one i p Q).2⟩,H.ses.apart⟩,H.map⟩
def J6{B x}(V:¬B i):(Bb B x).1[i]?=x.1[i]?:=by
 rw[Bz]
 grind
def EIn.startS(E:EIn G h z y c v A o f m se i N a q ob K L W d R){b M}(g:Fc v N.b 1 b M u)(F:De Post.TA Post.base u):Cx z y (OQ Post.JX N.b 1 v.1.size) (λj=>c j∨Post.TA j) (Bb (Ls v.1.size ob a.ownBlock) (Cb Post.TA Post.base u))/\Full G h (OQ Post.JX N.b 1 v.1.size) (λj=>c j∨Post.TA j) y (Bb (Ls v.1.size ob a.ownBlock) (Cb Post.TA Post.base u)) A o f m se/\TlU y (OQ Post.JX N.b 1 v.1.size) (Bb (Ls v.1.size ob a.ownBlock) (Cb Post.TA Post.base u))/\Ax (Bb (Ls v.1.size ob a.ownBlock) u) (Bb (Ls v.1.size ob a.ownBlock) (Cb Post.TA Post.base u)) Post.TA:=by
 obtain⟨C,H,a1⟩:=E.start g;obtain⟨_,P,_⟩:=E.F.ses.one i N E.hi;have nB:∀j,Post.TA j->¬Ls v.1.size ob a.ownBlock j:=λj l D=>by have:=(E.off j (r7 D)).1;have:=Post.lt j l;omega
 have p:Ax (Bb (Ls v.1.size ob a.ownBlock) u) (Bb (Ls v.1.size ob a.ownBlock) (Cb Post.TA Post.base u)) Post.TA:=⟨iI,iI,iI,by rw[Dc,Dc,Bh];exact aC _,λj _ l=>by rw[Bz,Bz,By l]⟩;have Q:VW (OQ Post.JX N.b 1 v.1.size) (λj=>c j∨Post.TA j) (Bb (Ls v.1.size ob a.ownBlock) (Cb Post.TA Post.base u)):=by
  refine⟨λj l=>?_,λS w=>?_,λI Y=>?_,λT x=>?_⟩
  ·by_cases V:Post.TA j
   ·obtain⟨r,e,t,k⟩:=Post.rows j V;exact⟨r,e,t,by rwa[J6 (nB j V),Dy F V]⟩
   ·have D:=l.resolve_right V;obtain⟨r,e,t,k⟩:=C.W.rows j D;exact⟨r,e,t,p.get k V⟩
  ·rcases w with w|w
   ·exact r7 (C.W.2 S w)
   ·obtain⟨O,e,V⟩:=PA.jx w;cases e;exact kr V
  ·rcases Y with Y|Y
   ·obtain⟨U,k,J⟩:=C.W.3 I Y;refine⟨U,p.get k λV=>?_,J⟩;obtain⟨r,e,t,_,X⟩:=F.blank I V;rw[J6 (nB I V),X]at k;cases k;cases J
   ·obtain⟨O,e,V⟩:=PA.jx Y;cases e
  ·rcases x with x|x
   ·exact C.W.4 T x
   ·obtain⟨O,e,V⟩:=PA.jx x;cases e
 have V:z (Bb (Ls v.1.size ob a.ownBlock) u):=(C.G _ (λ_ _=>rfl) C.sz).tabs;have n:De Post.TA Post.base (Bb (Ls v.1.size ob a.ownBlock) u):=⟨λj l=>by
  obtain⟨r,e,t,k,J⟩:=F.blank j l;exact⟨r,e,t,k,by rwa[J6 (nB j l)]⟩⟩
 refine⟨(⟨Q,λZ B s=>C.G Z (λj l=>(B j l).trans (p.block j (by have:=C.sz;have:=C.g8;omega) λV=>by have:=Post.ge j V;omega)) s,λj l=>l.elim (C.3 j) (Post.ge j),aE C.sz p.size,C.g8⟩),((H.kx p (λj l V=>by have:=H.ge l;have:=Post.lt j V;omega) λV=>by have:=H.1.gD;have:=Post.lt _ V;omega).reB λj l=>⟨λg=>g.resolve_right λV=>by have:=Post.lt j V;omega,r7⟩).reJ λa6 a7 D k J=>?_,?_,p⟩
 ·rintro((g|g|g)|g)
  ·cases g;exact k iI
  ·cases g;exact J iI
  ·cases g
  ·obtain⟨O,e,V⟩:=PA.jx g;cases e;have:=Post.lt _ V;simp only at this;omega
 ·refine(Post.tlU (cb:=N.b) (co:=1) (N:=iL v.1) n V P).kx (X:=λ_=>False) ⟨iI,iI,iI,by rw[Bh,Dc,Dc,Bh];exact aC _,λj _ _=>?_⟩ C.g8 (by rw[Bh];exact C.sz) λ_ g=>g.elim;by_cases V:Post.TA j
  ·rw[J6 (nB j V),Dy F V,Dy n V]
  ·rw[By V,Bz,Bz,By V]
def Akf(bc:It h z)(k:EIn G h z y c v A o f m se i N a q ob K L W d R)(hC:Je q W E e t)(hp:Wz q)(bd:∀a6 b ao σ' l',E=a6++b::ao->Ij h i a6 o (se.map SI.abs) σ' l'->Yx h z y A.tb A.5 i b σ' l'):Bg y7 km Ec (Mz Post) 46 #[pdw (lj (iD N.b 1)),I5 ob K (iK W) L,.func (.func 47) #[] #[iB d,iB R]] v λaq vF=>aq=gd (!t)/\∃σ' ap bf ab aj,Ij h i E o (se.map SI.abs) σ' (ab.map SI.abs)/\Cx z y Ec c vF/\Full (Lg G N.b (aj,gd t)) h Ec c y vF A σ' ap bf ab/\vF.ownsRow 0 5 1 aj (iK e) (A4 e)/\IntsIn vF aj/\(∀p,aj.ownBlock=lj p->¬Hg ab p/\(a.ownBlock=lj p∨iL v.1<=p))/\Ax v vF (λg=>A.has f g∨Hg se g∨a.ownBlock=lj g)/\(∀p,Fq ap=lj p->Fq f=lj p∨iL v.1<=p)/\(∀g,Hg ab g->Hg se g∨iL v.1<=g)/\(ab.map λad=>(ad.k,ad.b))=se.map λad=>(ad.k,ad.b):=by
 obtain⟨be,EI,bi⟩:=k.eachIn;have hB:∀u u',Fc v N.b 1 (I5 ob K (iK W) L) KK u->Fc v N.b 1 (I5 ob K (iK W) L) KK u'->∀g,g=iL v.1∨g=iL v.1+2∨ob=lj g∨a.ownBlock=lj g->(Bb (Ls v.1.size ob a.ownBlock) u).1[g]?=(Bb (Ls v.1.size ob a.ownBlock) u').1[g]?:=λu u' j P g l=>by
  rw[Bz,Bz];rcases l with rfl|rfl|O|O
  ·rw[j.3,P.3]
  ·rw[j.b2,P.b2]
  ·obtain⟨_,_,_,_,H,fz,r,_⟩:=k.brow _ O;rw[j.K.get r id,P.K.get r id]
  ·obtain⟨H,X⟩:=Hz k.own O;rw[j.K.get X id,P.K.get X id]
 have az:∀u,Fc v N.b 1 (I5 ob K (iK W) L) KK u->(Bb (Ls v.1.size ob a.ownBlock) u).1[d]?=lj (oh #[iB N.b] 79)/\(Bb (Ls v.1.size ob a.ownBlock) u).1[R]?=lj (oh #[iB A.1] 68):=λu j=>
  ⟨(k.start j).2.2.get k.14 λY=>(k.off _ (r7 Y)).2.2.2.2.2.1 iI,(k.start j).2.2.get k.15 λY=>(k.off _ (r7 Y)).2.2.2.2.2.2 iI⟩
 have D:∀u,Fc v N.b 1 (I5 ob K (iK W) L) KK u->(Bb (Ls v.1.size ob a.ownBlock) u).1.size=iL v.1+5:=λu j=>by rw[Dc,j.size]
 have T:∀g,y<=g->¬Post.TA g:=λg l V=>by have:=Post.lt g V;omega
 obtain⟨_,bg,_⟩:=k.F.ses.one i N k.hi;refine Bq (Ai3 (A:=Post) (I:=λms x=>∃w,Fc v N.b 1 (I5 ob K (iK W) L) KK w/\De Post.TA Post.base w/\IE G h z y (OQ Post.JX N.b 1 v.1.size) (λg=>c g∨Post.TA g) (Bb (Ls v.1.size ob a.ownBlock) (Cb Post.TA Post.base w)) A o f se i E ms x) EI (T _ bg) (λbh Y=>T _ (k.brow bh Y).1) (λp Q=>T _ (k.pg p Q).1) hC hp ?_ ?_ ?_ ?_ ?_) ?_
 ·rintro ms x al⟨w,r,hH,a6,σ1,Z,ah,a7,ag,ai,C,a1,F,TU⟩;exact⟨w,r,hH,a6,σ1,Z,ah,a7,ag,ai,C.at al,a1.at al,F.at al,TU.kx ((Ax.refl x iH).at al) C.g8 C.sz λ_ j=>j.elim⟩
 ·rintro b ao x⟨w,r,hH,bj⟩bk;obtain⟨_,_,_,S⟩:=k.startS (Post:=Post) r hH;have nx:∀{g} {H} {O},v.1[g]?=lj (oh H O)->H≠#[]->¬Post.TA g:=λ{g H O} l X V=>by
   obtain⟨c',e',bm,_,h2⟩:=hH.blank g V;rw[r.K.get l id]at h2;cases h2;exact X iI
  have b5:=nx k.14 Ad;have b6:=nx k.15 Ad;exact Bq (k.cb bc (λj=>j.elim k.16 b5) (λj=>j.elim k.17 b6) (S.get (az w r).1 b5) (S.get (az w r).2 b6) bd b ao x bj bk) λaq x' j=>⟨j.1,w,r,hH,j.2⟩
 ·intro u r hH;obtain⟨C,a1,TU,_⟩:=k.startS (Post:=Post) r hH;exact⟨u,r,hH,[],o,f,m,se,iI,.nil _ _,C,a1,E5.kf (Ax.refl _ _),TU⟩
 ·rintro u r c6 x⟨w,U,ae,a6,σ1,Z,ah,a7,ag,ai,C,a1,F,_⟩;obtain⟨_,_,_,S⟩:=k.startS (Post:=Post) U ae;obtain⟨ar,au,aa,_⟩:=Zy F.kb k.hi;refine⟨λg l=>?_,?_,?_⟩
  ·have af:Ls v.1.size ob a.ownBlock g∨g=iL v.1+2:=by
    rcases l with j|j|j|j
    ·exact r7 (r7 j)
    ·exact kr j
    ·exact r7 (kr (kr (kr (kr (r7 j)))))
    ·exact r7 (kr (kr (kr (kr (kr j)))))
   obtain⟨_,_,bn,I,_⟩:=k.off g af;have Q:=(k.off g af).1;have am:g<(Bb (Ls v.1.size ob a.ownBlock) w).1.size:=?_
   ·rw[hB u w r U g l,←S.block g am (T g Q)];exact F.K.block g (aA am S.size) λj=>j.elim bn I
   rw[D w U];rcases l with j|j|j|j
   ·omega
   ·omega
   ·obtain⟨_,_,_,_,H,fz,r,_⟩:=k.brow _ j;have:=ltOf r;omega
   ·have:=Cm k.own j;omega
  ·obtain⟨bo,_,_⟩:=a1.ses.one i ar au;obtain⟨H,X,c7,_⟩:=bo.row;exact⟨H,aa▸X,Aa⟩
  ·rw[←D w U];exact aE S.size F.K.size
 ·rintro x⟨w,U,ae,a6,σ1,Z,ah,a7,ag,ai,C,a1,F,_⟩g l;have nB:¬Ls v.1.size ob a.ownBlock g:=λY=>T g (k.off g (r7 Y)).1 l;obtain⟨H,O,fz,h1⟩:=Post.rows g l;have h2:(Bb (Ls v.1.size ob a.ownBlock) (Cb Post.TA Post.base w)).1[g]?=Post.base.1[g]?:=by rw[J6 nB,Dy ae l]
  rw[←h2];exact F.K.block g (ltOf (h2.trans h1)) λj=>by
   obtain⟨_,FS,_⟩:=k.startS (Post:=Post) U ae;exact T g (FS.ge j) l
 ·rintro aq vF⟨rfl,ak,⟨w,U,ae,a6,σ1,Z,ah,a7,ag,ai,C8,an,J,_⟩,av,M⟩;obtain rfl:E=a6:=by simpa using ag
  obtain⟨CS,FS,_,S⟩:=k.startS (Post:=Post) U ae;have KB:Ax ak (Bb Post.TA ak) Post.TA:=Jn _ _;have a1:=((an.kx KB (λg l V=>T g (an.ge l) V) λV=>T _ an.1.gD V).reB (B2:=c) λg l=>⟨r7,λj=>j.resolve_right (T g l)⟩);have F:E5 (Bb (Ls v.1.size ob a.ownBlock) w) (Bb Post.TA ak) A f Z se a7:=by
   refine⟨⟨J.K.os,J.K.tape,J.K.output,aE S.size (aE J.K.size KB.size),λg l hx=>?_⟩,λp Q=>(J.own p Q).imp id λj=>aE S.size j,λg l=>(J.sin g l).imp id λj=>aE S.size j,J.kb⟩;by_cases V:Post.TA g
   ·obtain⟨H,O,fz,h1,h2⟩:=av.blank g V;obtain⟨c',e',bm,b7,h4⟩:=ae.blank g V;rw[h1]at b7;cases b7;rw[h2,J6 (λY=>T g (k.off g (r7 Y)).1 V),h4]
   ·rw[J6 V,J.K.block g (aA l S.size) hx,S.block g l V]
  have C:Cx z y Ec c (Bb Post.TA ak):=by
   refine⟨⟨λg l=>?_,λ_ j=>j.elim,λ_ j=>j.elim,λ_ j=>j⟩,λbq hL hs=>C8.G bq (λg l=>(hL g l).trans (KB.block g (by have:=C8.sz;have:=C8.g8;omega) λV=>by have:=Post.ge g V;omega)) hs,k.C.3,aE C8.sz KB.size,C8.g8⟩;by_cases V:Post.TA g
   ·obtain⟨H,O,fz,h1,h2⟩:=av.blank g V;exact⟨_,O,fz,h2⟩
   ·obtain⟨H,O,fz,h1⟩:=C8.W.rows g (r7 l);exact⟨H,O,fz,KB.get h1 V⟩
  clear KB an J C8 CS FS av;generalize Bb Post.TA ak=vA at *;obtain⟨ar,au,aa,c8⟩:=Zy F.kb k.hi;obtain⟨C0,F0,B⟩:=k.start U;obtain⟨b8,c9,br,b9,a3,n,a5⟩:=M.part;have aw:=D w U;have ax:iL v.1+5<=iL vA.1:=aw▸F.K.size;have ba:∀p,Fq Z=lj p->Fq f=lj p∨iL v.1+5<=p:=λp Q=>(F.own p Q).imp id λj=>aw▸j;have ay:∀g,Hg a7 g->Hg se g∨iL v.1+5<=g:=λg l=>(F.sin g l).imp id λj=>aw▸j;have bu:∀g,A.has Z g->A.has f g∨iL v.1+5<=g:=λg l=>by
   rcases l with j|j|j|j
   ·exact r7 (r7 j)
   ·exact r7 (kr (r7 j))
   ·exact(ba g j).imp (λj=>kr (kr (r7 j))) id
   ·exact r7 (kr (kr (kr j)))
  have cc:N.b<iL v.1:=(k.F.ses.one i N k.hi).1.lt;have bw:∀g,ob=lj g->g<iL v.1:=λg j=>by obtain⟨_,_,_,_,H,fz,r,_⟩:=k.brow _ j;exact ltOf r
  have bb:∀g,a.ownBlock=lj g->g<iL v.1:=λg j=>Cm k.own j;have hX:∀g,A.has Z g∨Hg a7 g->g≠ar.b->¬(g=N.b∨g=iL v.1∨g=iL v.1+2∨ob=lj g∨a.ownBlock=lj g):=λg l bx j=>by
   have af:(A.has f g∨Hg se g)∨iL v.1+5<=g:=by
    rcases l with l|l
    ·exact(bu g l).imp r7 id
    ·exact(ay g l).imp kr id
   rcases j with j|j|j|j|j
   ·exact bx (j.trans aa.symm)
   ·rcases af with P|P
    ·have:=k.F.lt P;omega
    ·omega
   ·rcases af with P|P
    ·have:=k.F.lt P;omega
    ·omega
   ·rcases af with P|P
    ·exact P.elim (k.off g (r7 (kr (kr (kr (kr (r7 j))))))).2.2.1 (k.off g (r7 (kr (kr (kr (kr (r7 j))))))).2.2.2.1
    ·have:=bw g j;omega
   ·rcases af with P|P
    ·exact P.elim (k.off g (r7 (kr (kr (kr (kr (kr j))))))).2.2.1 (k.off g (r7 (kr (kr (kr (kr (kr j))))))).2.2.2.1
    ·have:=bb g j;omega
  have bz:¬(A.D=N.b∨A.D=iL v.1∨A.D=iL v.1+2∨ob=lj A.D∨a.ownBlock=lj A.D):=by
   have hD:=ltOf k.F.1.7;rintro(j|j|j|j|j)
   ·exact k.F.1.offD k.F.ses ⟨i,N,k.hi,r7 j⟩
   ·omega
   ·omega
   ·exact k.oD _ j iI
   ·exact(k.off _ (r7 (kr (kr (kr (kr (kr j))))))).2.2.2.2.1 iI
  have KF:Ax v vF (λg=>A.has f g∨Hg se g∨a.ownBlock=lj g):=by
   refine⟨M.K.os.trans (F.K.os.trans B.os),M.K.tape.trans (F.K.tape.trans B.tape),M.K.output.trans (F.K.output.trans B.output),aE (aE Aa ax) M.K.size,λg l a8=>?_⟩;by_cases s:ob=lj g
   ·exact M.b g s
   ·rw[M.K.block g Aa ?_,F.K.block g Aa ?_,B.block g l ?_]
    ·rintro(j|j|j|j|j|j)
     ·omega
     ·omega
     ·omega
     ·omega
     ·exact s j
     ·exact a8 (kr (kr j))
    ·exact λj=>a8 (j.imp id r7)
    ·rintro(j|j|j|j|j)
     ·exact a8 (kr (r7 ⟨i,N,k.hi,r7 j⟩))
     ·omega
     ·omega
     ·exact s j
     ·exact a8 (kr (kr j))
  have WF:VW Ec c vF:=by
   refine⟨λg l=>?_,λ_ j=>j.elim,λ_ j=>j.elim,λ_ j=>j⟩;by_cases X:g=N.b
   ·subst X;exact⟨_,_,_,b9⟩
   ·rw[M.K.block g (C.W.lt l) ?_]
    ·exact C.W.rows g l
    ·have am:=k.C.W.lt l;rintro(j|j|j|j|j)
     ·exact X j
     ·omega
     ·omega
     ·exact(k.brow g j).2.1 l
     ·exact(k.pg g j).2.1 l
  refine⟨iI,σ1,Z,ah,a7,b8,ai,k.C.kx KF WF ?_,aa▸((a1.reJ (J':=Ec) λ_ _ _ _ _ j=>j).cutter (x:=b8) (b:=t) au M.K (aa▸br) (aa▸b9) hX bz),a3,n,λp Q=>?_,KF,λp Q=>(ba p Q).imp id λj=>Aa,λg l=>(ay g l).imp id λj=>Aa,F.kb⟩
  ·rintro g(j|j|j)
   ·exact k.F.ge (r7 j)
   ·exact k.F.ge (kr j)
   ·exact(k.pg g j).1
  ·refine⟨λhs=>?_,(a5 p Q).imp id λj=>Aa⟩;rcases a5 p Q with j|j
   ·rcases ay p hs with P|P
    ·exact(k.pg p j).2.2 P
    ·have:=bb p j;omega
   ·have:=a1.lt (kr hs);omega
end
def UT(i:Nat)(t:Bool)(σ1:ST)(l1:List AS)(σ':ST)(l':List AS):Prop:=
 ∃a,l1[i]?=lj a/\if t=km/\a.en=sd then σ' = { σ1 with ks:=CE a.k σ1.ks }/\l'=Ua l1 i (E8 σ1.num 2) else σ'=σ1/\l'=l1
def NG(valid:gS)(i:Nat)(Ea:gR)(t:Bool)(σ:ST)(l:List AS)(σ':ST)(l':List AS):Prop:=
 ∃σ1 l1,Ij valid i Ea σ l σ1 l1/\UT i t σ1 l1 σ' l'
noncomputable def rd3:Code:=match f40.body with|some (.seq _ (.seq _ (.seq c _)))=>c|_=>.skip
noncomputable def rd4:Code:=match f40.body with|some (.seq _ (.seq _ (.seq _ c)))=>c|_=>.skip
noncomputable def LR(svb sb:Nat)(bv:Z)(xb yb:Nat)(whole:Bool)(s:hQ):Act:=⟨#[iB svb,iB sb,bv,iB yb,iB xb,s 5,gd whole,s 7,s 8,s 9,s 10,s 11,s 12,s 13,s 14,s 15,s 16,s 17,s 18,s 19,s 20,s 21,s 22,s 23,s 24,s 25,s 26,s 27,s 28,s 29,s 30,s 31,s 32,s 33,s 34,s 35,s 36,s 37],[]⟩
def Ame{z T R b a}(h:a=LR z D T C R b (λj=>a.tmps.getD j qp)):∃s,a=LR z D T C R b s:=⟨_,h⟩
section
variable {G:Nat->Z×Z} {J:gW} {se:List SI} {s:hQ}
def Amo{svb sb bv xb yb whole a c}(h:a=LR svb sb bv xb yb whole (λj=>a.tmps.getD j qp))(H:∀s,Hp y7 km J F 40 c Q (LR svb sb bv xb yb whole s) w):Hp y7 km J F 40 c Q a w:=by
 rw[h];exact H _
def Ahw(r:It h z)(C:Cx z y J c u)(d:Full G h J c y u A o f m se)(V:se[i]?=lj N)(E:iK N.lo<=9000000000)(l:t=km->o.down=sd)(a7:u.1[xb]?=lj (oh #[iB N.b] 79))(D:¬c xb)(p:u.1[yb]?=lj (oh #[iB A.1] 68))(I:¬c yb):Hp y7 km J F 40 rd3 (λK L e=>K=.normal/\(∃W,L=LR A.1 N.b bv xb yb (!t) W)/\VW J c e/\∃n w,Full G h J c y e A n f m w/\E5 u e A f f se w/\UT i t o (se.map SI.abs) n (w.map SI.abs)) (LR A.1 N.b bv xb yb (!t) s) u:=by
 obtain⟨q,_,_⟩:=d.ses.one i N V;have X:=q.j 4 Ae Ae;have U:∀k,¬J (.cell (iD xb k)):=λk a=>D (C.W.2 _ a);have v:∀k,¬J (.cell (iD yb k)):=λk a=>I (C.W.2 _ a);have g:(se.map SI.abs)[i]?=lj N.abs:=by rw[aS,V];rfl
 have j:=q.cell.2.2.1;unfold rd3 LR;simp only[f40];refine Wqw ?_;cases t with
 |false=>
  refine Trb ?_
  iterate 5(refine Lgl ?_)
  refine Wad ?_
  iterate 3(refine Lgl ?_)
  refine Keu ?_;refine Fhg ?_;refine B6 ⟨iI,Ame iI,C.W,o,se,d,E5.kf (Ax.refl _ _),N.abs,g,?_⟩;rw[aM Ad];exact⟨iI,iI⟩
 |true=>
  refine Trb ?_;refine Bp (S (j:=0) a7 iI) (U 0) ?_;walk_nrm;refine Wad ?_;cases b:N.en with
  |true=>
   rw[b]at j;refine Bp j X ?_;walk_nrm;refine Trb ?_
   iterate 3(refine Lgl ?_)
   refine Keu ?_;refine Fhg ?_;refine B6 ⟨iI,Ame iI,C.W,o,se,d,E5.kf (Ax.refl _ _),N.abs,g,?_⟩;rw[aM (λa=>by have:=a.2;rw[show N.abs.en=N.en from iI,b]at this;cases this)];exact⟨iI,iI⟩
  |false=>
   rw[b]at j;refine Bp j X ?_;walk_nrm;refine Trb ?_;refine Bp (S (j:=0) p iI) (v 0) ?_;walk_nrm;refine A2 (Ym C.W A.1 (B8 A.D A.tb A.wm A.sm o.last sd) sd (by have:=d.1.V.1;rwa[l iI]at this) iI d.1.V.nv) iI Ac iI Af ?_;rintro x Z⟨H,P,rfl⟩;walk_nrm;refine Wad ?_;refine C7u ?_;refine A0 ?_;refine Bp (S (j:=0) (H.get p id) iI) (v 0) ?_;walk_nrm;refine Bp (S (j:=0) (H.get a7 id) iI) (U 0) ?_;walk_nrm;refine A2 (Ant r (C.kx H P λ_ a=>a.elim) (d.kf H) i N V E 2 Ae Ae) iI Ac iI D2 ?_;rintro x B⟨rfl,M,O,Y,Q,R⟩;walk_nrm;refine Au ⟨iI,Ame iI,M,_,O,Y,(E5.kf H).trans Q,N.abs,g,?_⟩;rw[aL ⟨iI,b⟩];exact⟨iI,R⟩
def Aaa(h:w.1[b]?=lj (oh cs 84))(s:cs.size=6){x y}(C:cs[1]?=lj x)(q:cs[2]?=lj y)(l:∀k,¬J (.cell (iD b k)))(o)(O:o.op=.store 82 (.tmp 37) (.tmp 35))(a:Act)(n:a.eval (.tmp 37)=pdw (lj (iD b 1)))(j:a.eval (.tmp 35)=faj #[qh jh 0 0,gd sd]):(∀M,Go.Pair.Yields y7 (execOp a.eval o) (w.at M) qp (((w.setCell (iD b 1) (qh jh 0 0)).setCell (iD b 2) (gd sd)).at M))/\∀M,∀e∈(execOp a.eval o).events y7 (w.at M) #[],Ff J e:=by
 refine⟨λM=>kr ⟨?_,iI⟩,λM=>?_⟩
 all_goals
  have m:(w.at M).cell? (iD b 1)=lj x:=S (j:=1) h C;have p:(w.at M).cell? (iD b 2)=lj y:=S (j:=2) h q;have ⟨_,D,a1,_⟩:=Gu (W:=w.at M) h;unfold execOp;rw[O];simp only[n,j]
 ·go_simp;simp only[at_set]
 ·intro e Y;simp[go_sem,m,p,D,a1,events_store _ _ _ _ (qh _ _ _) Mode.plain iI,events_store _ _ _ _ (gd _) Mode.plain iI,storedEv]at Y;rcases Y with rfl|rfl<;>exact Cl (l _)
def YX(C:Cx z y Ec c u)(a:Full G h Ec c y u A o f m se)(V:se[i]?=lj N)(E:u.1[xb]?=lj (oh #[iB N.b] 79)):Hp y7 km Ec F 40 rd4 (λg l B=>(g=.normal∨g=.ret)/\l.defers = []/\Y u B (· = N.b)/\VW Ec c B/\Full (if N.en then Lg G N.b (qh jh 0 0,gd sd) else G) h Ec c y B A o f m se) (LR A.1 N.b bv xb yb (!t) s) u:=by
 obtain⟨q,_,_⟩:=a.ses.one i N V;have b:=q.cell.2.2.1;obtain⟨cs,d,L,k,n,r,v⟩:=q.row;obtain⟨P,O⟩:=q.tl cs d;unfold rd4 LR;simp only[f40];refine Wqw ?_;apply Bp (cellOf (j:=0) E iI) (VA _);walk_nrm;refine Wad ?_;cases p:N.en with
 |false=>
  rw[p]at b;refine Bp b (VA _) ?_;walk_nrm;refine Rgq ?_;exact B6 ⟨r7 iI,iI,Y.refl _ _,C.W,a⟩
 |true=>
  rw[p]at b;refine Bp b (VA _) ?_;walk_nrm;refine C7u ?_;refine A0 ?_;refine Bp (cellOf (j:=0) E iI) (VA _) ?_;walk_nrm;refine Trb ?_;have a6:=Aaa (J:=Ec) d L P O (λ_=>VA _);refine Cy (S:=env Lv) (fn:=40) iI Ac (B7 Ab) (A6 _ _) (x:=qp) (v':=(u.setCell (iD N.b 1) (qh jh 0 0)).setCell (iD N.b 2) (gd sd)) (a6 _ iI _ Ac Ac).1 (a6 _ iI _ Ac Ac).2 ?_;walk_nrm;have a8:=(Et u N.b 1 (qh jh 0 0)).trans (Et (u.setCell (iD N.b 1) (qh jh 0 0)) N.b 2 (gd sd));have D:((u.setCell (iD N.b 1) (qh jh 0 0)).setCell (iD N.b 2) (gd sd)).1[N.b]?=lj (oh ((cs.setIfInBounds 1 (qh jh 0 0)).setIfInBounds 2 (gd sd)) 84):=by
   rw[heap_setCell,aL iI,heap_setCell,aL iI,d];rfl
  exact Au ⟨r7 iI,iI,a8,((C.W.set N.b 1 (qh jh 0 0)).set N.b 2 (gd sd)),a.cutter V a8 d D (λj _ e=>e) λe=>a.1.offD a.ses ⟨i,N,V,r7 e⟩⟩
end
def OR(cu:Nat->Z×Z)(se:List SI)(j:Nat):Prop:=∃(i:Nat)(p:SI),se[i]?=lj p/\(cu p.b).1.ownBlock=lj j
structure Xz(cu:Nat->uo×uo)(Bs:gV)(gN u se)(qs:gR):Prop where
 one:∀(i:Nat)p,se[i]?=lj p->∃q,qs[i]?=lj q/\Wz q/\(cu p.b).2=gd sd/\u.ownsRow 0 5 1 (cu p.b).1 (iK q) (A4 q)/\IntsIn u (cu p.b).1/\∀g,(cu p.b).1.ownBlock=lj g->gN<=g/\¬Bs g/\¬Hg se g
 apart:∀(i j:Nat)p r,se[i]?=lj p->se[j]?=lj r->i≠j->∀g,(cu p.b).1.ownBlock=lj g->(cu r.b).1.ownBlock≠lj g
def Ho(cu:Nat->Z×Z)(A:SA)(fa:hU)(se:List SI)(j:Nat):Prop:=A.has fa j∨Hg se j∨OR cu se j
structure Io(cu:Nat->uo×uo)(valid Tabs gN Bs u A)(σ)(fa fc se qs):Prop where
 C:Cx Tabs gN Ec Bs u
 F:Full cu valid Ec Bs gN u A σ fa fc se
 Q:Xz cu Bs gN u se qs
 glob:∀i,i<8->∃c e fz,u.1[i]?=lj (oh c e fz)
structure Rp(u u' A)(cu cu':Nat->uo×uo)(fa fa' se Fu):Prop where
 K:Ax u u' (Ho cu A fa se)
 new:∀j,Ho cu' A fa' Fu j->Ho cu A fa se j∨iL u.1<=j
 kb:(Fu.map λp=>(p.k,p.b))=se.map λp=>(p.k,p.b)
structure OU(gN)(Bs:gV)(u:gk)(Ft:gV)(D)(ob:hY)(Cz cap)(bs:gT):Prop where
 row:∀bb,ob=lj bb->gN<=bb/\¬Bs bb/\¬Ft bb/\bb≠D/\∃c fz,u.1[bb]?=lj (oh c 5 fz)/\Jf c
 len:iK bs<=cap
 bby:bs≠[]->∃bb,ob=lj bb/\Bytes u bb Cz bs
section
variable {g:Nat->Z×Z} {se a:List SI}
def Ug{t}{n:Nat}{xs:gZ}(h:IntsIn u t)(E:∀g,t.ownBlock=lj g->O.1[g]?=u.1[g]?):IntsIn O t:=λg a G M=>h g a G Aj
def Xz.lt(h:Xz cu c y u se r){j}(l:OR cu se j):j<iL u.1:=by
 have ⟨i,p,Q,G⟩:=l;have ⟨q,_,_,_,O,_⟩:=h.one i p Q;exact Cm O G
def Xz.kx(h:Xz cu c y u se r)(K:Y u O X)(E:∀j,OR cu se j->¬X j):Xz cu c y O se r:=
 ⟨λi p Q=>by
  have ⟨q,C,J,T,Z,z,f⟩:=h.one i p Q;have a:∀g,(cu p.b).1.ownBlock=lj g->O.1[g]?=u.1[g]?:=λg e=>K.block g (Cm Z e) (E g ⟨i,p,Q,e⟩);exact⟨q,C,J,T,Dh Z a,Ug (n:=0) (xs:=[]) z a,f⟩,h.apart⟩
def Io.lt(a:Io cu h z y c u A o fa m se r){j}(l:Ho cu A fa se j):j<iL u.1:=by
 rcases l with l|l|l
 ·exact a.F.lt (r7 l)
 ·exact a.F.lt (kr l)
 ·exact a.Q.lt l
def Io.ge(a:Io cu h z y c u A o fa m se r)(l:Ho cu A fa se j):y<=j:=by
 rcases l with l|l|l
 ·exact a.F.ge (r7 l)
 ·exact a.F.ge (kr l)
 ·have ⟨i,p,Q,G⟩:=l;have ⟨q,_,_,_,_,_,f⟩:=a.Q.one i p Q;exact(f j G).1
def Lj(h:∀i,i<8->∃c e a,u.1[i]?=lj (oh c e a))(K:Y u O X)(t:∀j,X j->8<=j):∀i,i<8->∃c e a,O.1[i]?=lj (oh c e a):=λi V=>by
 have ⟨c,e,a,M⟩:=h i V;exact⟨c,e,a,K.get M λZ=>by have:=t i Z;omega⟩
def Io.kx(a:Io cu h z y c u A o fa m se r)(K:Y u O X)(W:VW Ec c O)(t:∀j,Ho cu A fa se j->¬X j)(b:¬X A.D)(G:∀j,X j->y<=j):Io cu h z y c O A o fa m se r:=
 ⟨a.C.kx K W G,a.F.kx K (λj l=>t j (l.imp id r7)) b,a.Q.kx K λj l=>t j (kr (kr l)),Lj a.glob K λj l=>aE a.C.g8 (G j l)⟩
def Io.kf(a:Io cu h z y c u A o fa m se r)(K:Y u O iH):=
 a.kx K (a.C.W.ofK K (λ_ _ a=>a) λ_ a=>a.elim) (λ_ _ a=>a) (λa=>a) λ_ a=>a.elim
def Rp.kf(K:Y u O iH):Rp u O A cu cu fa fa se se:=⟨K.mono λ_ h=>h.elim,λ_ h=>r7 h,iI⟩
def Rp.trans{U}{b:Nat->Z×Z}{c e}(h:Rp u O A cu g fa d se a)(k:Rp O U A g b d c a e):Rp u U A cu b fa c se e:=
 ⟨h.K.trans' k.K λj l Y=>(h.new j l).elim id λh=>Aa,λj l=>(k.new j l).elim (h.new j) λf=>kr (aE h.K.size f),k.kb.trans h.kb⟩
def E5.pin(G:E5 u O A fa d se a)(D:∀(i:Nat)b,a[i]?=lj b->∃p,se[i]?=lj p/\b.b=p.b)(l:OR cu a j):OR cu se j:=by
 have ⟨i,b,Q,c⟩:=l;have ⟨p,C,J⟩:=D i b Q;exact⟨i,p,C,by rwa[←J]⟩
def Ll{se a:List SI}(h:(a.map λp=>(p.k,p.b))=se.map λp=>(p.k,p.b))(i:Nat)(u)(V:a[i]?=lj u):∃p,se[i]?=lj p/\u.b=p.b:=by
 have ⟨p,C,J,_⟩:=Zy h.symm V
 grind
def Full.offP(F:Full cu h Ec c y u A o fa m se){t}{X:gZ}(O:u.ownsRow 0 5 1 t n X){g}(G:t.ownBlock=lj g):¬A.has fa g/\g≠A.D:=by
 have ⟨a,M⟩:=Hz O G;refine⟨λe=>?_,λe=>?_⟩
 ·have ⟨b,S,_,Y⟩:=F.1.obj F.map e
  grind
 ·subst e;rw[F.1.7]at M;cases M
def Xz.step{a:Nat->uo×uo}{s}(h:Xz cu c y u se r)(V:se[i]?=lj N)(H:∀j(p:SI),se[j]?=lj p->j≠i->p.b≠N.b)(K:Ax u O (λj=>A.has fa j∨Hg se j∨(cu N.b).1.ownBlock=lj j))(z:∀j,OR cu se j->¬A.has fa j)(E:∀j,Hg s j->Hg se j∨iL u.1<=j)(I:(s.map λp=>(p.k,p.b))=se.map λp=>(p.k,p.b))(C:a N.b=(x,gd sd))(J:∀b,b≠N.b->a b=cu b)(hq:Wz q)(a7:O.ownsRow 0 5 1 x (iK q) (A4 q))(aa:IntsIn O x)(G:∀g,x.ownBlock=lj g->y<=g/\¬c g/\¬Hg s g/\((cu N.b).1.ownBlock=lj g∨iL u.1<=g)):Xz a c y O s (r.set i q):=by
 obtain⟨a8,F,_⟩:=h.one i N V;have ab:i<iK r:=(aF.1 F).1;refine⟨λj S l=>?_,λj k p f l B o g m=>?_⟩
 ·obtain⟨p,Q,D⟩:=Ll I j S l;rw[D];by_cases W:i=j
  ·grind
  ·rw[J _ (H j p Q λe=>W e.symm),bE W];obtain⟨f,T,U,Z,n,a1,d⟩:=h.one j p Q;have B:∀g,(cu p.b).1.ownBlock=lj g->O.1[g]?=u.1[g]?:=λg e=>K.block g (Cm n e) (by
    rintro(P|P|P)
    ·exact z g ⟨j,p,Q,e⟩ P
    ·exact(d g e).2.2 P
    ·exact h.apart i j N p V Q W g P e)
   refine⟨f,T,U,Z,Dh n B,Ug (n:=0) (xs:=[]) a1 B,λg e=>⟨(d g e).1,(d g e).2.1,λhs=>?_⟩⟩;rcases E g hs with P|P
   ·exact(d g e).2.2 P
   ·have:=Cm n e;omega
 ·obtain⟨v,Q,D⟩:=Ll I j p l;obtain⟨M,Y,a6⟩:=Ll I k f B;rw[D]at m;rw[a6];have w:∀k(M:SI),se[k]?=lj M->k≠i->∀g,x.ownBlock=lj g->(cu M.b).1.ownBlock≠lj g:=λk M Y t g X L=>by
   rcases(G g X).2.2.2 with P|P
   ·exact h.apart i k N M V Y (λe=>t e.symm) g P L
   ·obtain⟨_,_,_,_,n,_⟩:=h.one k M Y;have:=Cm n L;omega
  by_cases R:j=i
  ·subst R;rw[V]at Q;obtain rfl:=aB Q;rw[C]at m;rw[J _ (H k M Y λe=>o e.symm)];exact w k M Y (λe=>o e.symm) g m
  ·rw[J _ (H j v Q R)]at m;by_cases t:k=i
   ·subst t;rw[V]at Y;obtain rfl:=aB Y;rw[C];exact λe=>w j v Q R g e m
   ·rw[J _ (H k M Y t)];exact h.apart j k v M Q Y o g m
def OR.step{c:Nat->Z×Z}{s}(V:se[i]?=lj N)(H:∀j(p:SI),se[j]?=lj p->j≠i->p.b≠N.b)(e:(s.map λp=>(p.k,p.b))=se.map λp=>(p.k,p.b)){y}(C:c N.b=(x,y))(J:∀b,b≠N.b->c b=cu b)(G:∀g,x.ownBlock=lj g->(cu N.b).1.ownBlock=lj g∨M<=g)(l:OR c s j):OR cu se j∨M<=j:=by
 have ⟨k,u,E,m⟩:=l;have ⟨p,Y,q⟩:=Ll e k u E;rw[q]at m;by_cases t:k=i
 ·subst t;rw[V]at Y;obtain rfl:=aB Y;rw[C]at m;exact(G j m).imp (λh=>⟨k,N,V,h⟩) id
 ·rw[J _ (H k p Y t)]at m;exact r7 ⟨k,p,Y,m⟩
def Ho.step{c:Nat->Z×Z}{s}(a:∀g,Fq d=lj g->Fq fa=lj g∨M<=g)(b:∀j,Hg s j->Hg se j∨M<=j)(e:∀j,OR c s j->OR cu se j∨M<=j)(l:Ho c A d s j):Ho cu A fa se j∨M<=j:=by
 rcases l with l|l|l
 ·rcases l with h|h|h|h
  ·exact r7 (r7 (r7 h))
  ·exact r7 (r7 (kr (r7 h)))
  ·exact(a j h).imp (λh=>r7 (kr (kr (r7 h)))) id
  ·exact r7 (r7 (kr (kr (kr h))))
 ·exact(b j l).imp (λh=>kr (r7 h)) id
 ·exact(e j l).imp (λh=>kr (kr h)) id
def partOf(l:List AS)(i:Nat)(q:gT):gT:=if(l[i]?.map AS.en).getD km then [] else q
def UT.en{e G V}(h:UT i t e B G V)(R:t=km){a}(d:V[i]?=lj a):a.en=km:=by
 have ⟨b,D,h⟩:=h;split at h
 ·obtain⟨_,rfl⟩:=h;unfold Ua at d
  grind
 grind
def Aot{Post:PA y z}{K}{F:gR}(ak:It h z)(H:Io cu h z y c u A o fa m se r)(V:se[i]?=lj N)(hq:r[i]?=lj q)(B:OU y c u (Ho cu A fa se) A.D ob T I W)(hC:Je q W F K t)(bd:Wz K)(hn:Wz [])(bf:∀done n bg G l',F=done++n::bg->Ij h i done o (se.map SI.abs) G l'->Yx h z y A.tb A.5 i n G l')(bh:∀p l1,Ij h i F o (se.map SI.abs) p l1->FT l1/\(t=km->p.down=sd)):Bg y7 km Ec (Mz Post) 40 #[iB A.1,iB N.b,I5 ob T (iK W) I] u λan O=>an=js #[]/\∃g G d bj a,Io g h z y c O A G d bj a (r.set i (partOf (a.map SI.abs) i K))/\Rp u O A cu g fa d se a/\NG h i F t o (se.map SI.abs) G (a.map SI.abs):=by
 obtain⟨q0,ao,bk,bm,bn,c9,a6⟩:=H.Q.one i N V;rw[hq]at ao;obtain rfl:=aB ao;obtain⟨S0,_,_⟩:=H.F.ses.one i N V;apply Bl func40 Ac iI (R:=λ_=>js #[]) (λ_ _=>results_none Ac _ _ _) (λ_ _=>jil Ac _ _);simp only[ntmps40,na,Nat.reduceAdd,Nat.reduceSub];refine Wqw ?_;apply Dk (#[iB A.1]) 68;walk_nrm;have K1:=Ba u #[iB A.1] 68 iH;have b1:(u.alloc (oh #[iB A.1] 68)).1[iL u.1]?=lj (oh #[iB A.1] 68):=iw _ _;generalize u.alloc (oh #[iB A.1] 68)=Z at K1 b1⊢;refine Dk (#[iB N.b]) 79 ?_;walk_nrm;have K2:=Ba Z #[iB N.b] 79 iH;have b2:(Z.alloc (oh #[iB N.b] 79)).1[iL Z.1]?=lj (oh #[iB N.b] 79):=iw _ _;have a7:=K2.get b1 id;generalize Z.alloc (oh #[iB N.b] 79)=u2 at K2 b2 a7⊢;have ag:=K1.trans K2;have z1:=K1.size;have J:=H.kf ag;have v:¬(A.has fa Z.1.size∨Hg se Z.1.size):=λe=>by have:=H.F.lt e;omega
 have aq:¬c Z.1.size:=λe=>by have:=H.C.W.lt e;omega
 have ar:¬c u.1.size:=λe=>by have:=H.C.W.lt e;omega
 have bo:EIn cu h z y c u2 A o fa m se i N (cu N.b).1 q ob T I W Z.1.size u.1.size:=by
  obtain⟨q1,au,_,_,bq,br,bu⟩:=J.Q.one i N V;rw[hq]at au;obtain rfl:=aB au;refine⟨J.C,J.F,V,by rw[←bm],bq,br,bu,λX D=>?_,λX D=>λe=>(B.row X D).2.2.1 (r7 e),λX D=>(B.row X D).2.2.2.1,B.len,λa8=>?_,J.glob,b2,a7,aq,ar,v,(λe=>by have:=H.F.lt e;omega)⟩
  ·obtain⟨bw,a2,a3,a4,av,fz,a5,bx⟩:=B.row X D;exact⟨bw,a2,λe=>a3 (kr (r7 e)),λe=>a3 (kr (kr ⟨i,N,V,e⟩)),av,fz,ag.get a5 id,bx⟩
  ·obtain⟨X,D,bz⟩:=B.bby a8;obtain⟨_,_,_,_,av,fz,a5,_⟩:=B.row X D;exact⟨X,D,λj l=>(Cg (ag.block X (ltOf a5) id)).trans (bz j l)⟩
 refine Ro8 ?_;refine Wqw ?_;refine Bp (cellOf (j:=0) b2 iI) (VA _) ?_;walk_nrm;refine Ldr ?_;refine A2 (Akf (Post:=Post) ak bo hC bk bf) iI Ac iI D2 ?_;rintro an vF⟨rfl,p,ad,aw,cc,L,af,CF,FF,M,c6,R,S,Jc,aj,ax⟩;walk_nrm;refine Keu ?_;obtain⟨p1,U,Y,_⟩:=Zy ax V;have ay:=bh p _ af;have az:∀j,(j=iL Z.1∨j=iL u.1)->¬(A.has fa j∨Hg se j∨(cu N.b).1.ownBlock=lj j):=λj l e=>by
  have:j<iL u.1:=by
   rcases e with e|e|e
   ·exact H.F.lt (r7 e)
   ·exact H.F.lt (kr e)
   ·exact Cm bn e
  rcases l with rfl|rfl<;>omega
 have b5:vF.1[iL Z.1]?=lj (oh #[iB p1.b] 79):=by rw[Y];exact S.get b2 (az _ (r7 iI))
 refine Aw ?_;refine Amo (svb:=A.1) (sb:=N.b) (bv:=I5 ob T (iK W) I) (xb:=iL Z.1) (yb:=iL u.1) (whole:=!t) iI λs=>?_;rw[←Y];refine Da (Ahw (s:=s) (bv:=I5 ob T (iK W) I) ak CF FF U (ay.1.lo _ (cX (bA U))) ay.2 b5 aq (S.get a7 (az _ (kr iI))) ar) ?_;rintro f a' w2⟨rfl,⟨s',rfl⟩,W2,σ2,x,F2,Q,hL⟩;simp only[A1];obtain⟨k,ah,C,_⟩:=Zy Q.kb U;have P:=Q.kb.trans ax;have cd:=ag.size;have cf:=S.size;have ab:∀j,Hg x j->Hg se j∨iL u.1<=j:=λj l=>by
  rcases Q.sin j l with e|e
  ·exact(aj j e).imp id λe=>Aa
  ·exact kr Aa
 have c7:w2.1[iL Z.1]?=lj (oh #[iB k.b] 79):=by
  rw[C];refine Q.K.get b5 λe=>?_;rcases e with e|e
  ·rcases e with e|e|e|e
   ·exact v (r7 (r7 e))
   ·exact v (r7 (kr (r7 e)))
   ·rcases Jc _ e with e|e
    ·exact v (r7 (kr (kr (r7 e))))
    ·have:=ltOf b2;omega
   ·exact v (r7 (kr (kr (kr e))))
  ·rcases aj _ e with e|e
   ·exact v (kr e)
   ·have:=ltOf b2;omega
 have C2:=CF.kx Q.K W2 λj e=>FF.ge e;rw[←C];refine Da (YX (s:=s') (t:=t) (yb:=iL u.1) (bv:=I5 ob T (iK W) I) C2 F2 ah c7) ?_;rintro f a' w3⟨he,hd,K3,W3,F3⟩;have al:∀(j:Nat)(w:SI),se[j]?=lj w->j≠i->w.b≠N.b:=λj w hp a8=>(H.F.ses.apart j i w N hp V a8).1;have ai:∀b,Fq ad=lj b->Fq fa=lj b∨iL u.1<=b:=λb hg=>(Jc b hg).imp id λe=>Aa;have a1:Ax u w3 (λj=>A.has fa j∨Hg se j∨(cu N.b).1.ownBlock=lj j):=by
  refine(((ag.mono λ_ e=>e.elim).trans S).trans' Q.K λj l Ib=>?_).trans' K3 λj l Ib=>(kr (r7 ⟨i,N,V,r7 (l.trans (C.trans Y))⟩))
  ·rcases l with e|e
   ·rcases e with e|e|e|e
    ·exact r7 (r7 e)
    ·exact r7 (kr (r7 e))
    ·rcases ai j e with e|e
     ·exact r7 (kr (kr (r7 e)))
     ·omega
    ·exact r7 (kr (kr (kr e)))
   ·rcases aj j e with e|e
    ·exact kr (r7 e)
    ·omega
 have b6:∀j,OR cu se j->¬A.has fa j:=λj⟨c8,w,hp,hg⟩=>by
  obtain⟨_,_,_,_,h4,_⟩:=H.Q.one c8 w hp;exact(H.F.offP h4 hg).1
 have b7:=Lj H.glob a1 (by
  have g8:=H.C.g8;rintro j(e|e|e)
  ·have:=H.F.ge (r7 e);omega
  ·have:=H.F.ge (kr e);omega
  ·have:=(a6 j e).1;omega)
 have b8:Ax u w3 (Ho cu A fa se):=a1.mono λj e=>by
  rcases e with e|e|e
  ·exact r7 e
  ·exact kr (r7 e)
  ·exact kr (kr ⟨i,N,V,e⟩)
 have b9:k.b=N.b:=C.trans Y;have ba:(x.map SI.abs)[i]?=lj k.abs:=by rw[aS,ah];rfl
 have aa:partOf (x.map SI.abs) i K=if k.en then [] else K:=by unfold partOf;rw[ba];rfl
 have bb:=C2.kx K3 W3 (λj e=>by rw[e];exact(F2.ses.one i k ah).2.1);cases E:k.en with
 |true=>
  rw[E,aL iI]at F3;rw[E,aL iI]at aa;have h1:Lg (Lg cu N.b (L,gd t)) k.b (qh jh 0 0,gd sd) N.b=(qh jh 0 0,gd sd):=by rw[b9];exact Ji _ _ _
  have h2:∀n,n≠N.b->Lg (Lg cu N.b (L,gd t)) k.b (qh jh 0 0,gd sd) n=cu n:=λn D=>by rw[b9,Iw _ _ D,Iw _ _ D]
  refine⟨he,hd,trivial,_,σ2,ad,aw,x,⟨bb,F3,aa.symm▸H.Q.step V al a1 b6 ab P h1 h2 hn ⟨by simp[A4],r7 ⟨iI,iI⟩⟩ (λb cg f=>by cases f) (λb f=>by cases f),b7⟩,⟨b8,λj l=>Ho.step ai ab (λj l=>OR.step V al P h1 h2 (λb f=>by cases f) l) l,P⟩,p,_,af,hL⟩
 |false=>
  rw[E,aM Ad]at F3;rw[E,aM Ad]at aa;obtain rfl:t=sd:=by
   cases t with
   |false=>rfl
   |true=>have:=hL.en iI ba;rw[show k.abs.en=k.en from iI,E]at this;cases this
  have ae:∀b,L.ownBlock=lj b->(cu N.b).1.ownBlock=lj b∨iL u.1<=b:=λb f=>((R b f).2).imp id λe=>Aa;have bc:∀b,L.ownBlock=lj b->w3.1[b]?=vF.1[b]?:=λb f=>by
   have Ib:=Cm M f;rw[K3.block b (aA Ib Q.K.size) ?_,Q.K.block b Ib ?_]
   ·rintro(e|e)
    ·exact(FF.offP M f).1 e
    ·exact(R b f).1 e
   ·intro e;exact(R b f).1 ⟨i,p1,U,r7 (e.trans C)⟩
  refine⟨he,hd,trivial,_,σ2,ad,aw,x,⟨bb,F3,aa.symm▸H.Q.step V al a1 b6 ab P (Ji _ _ _) (λn D=>Iw _ _ D) bd (Dh M bc) (Ug (n:=0) (xs:=[]) c6 bc) (λb f=>?_),b7⟩,⟨b8,λj l=>Ho.step ai ab (λj l=>OR.step V al P (Ji _ _ _) (λn D=>Iw _ _ D) ae l) l,P⟩,p,_,af,hL⟩;refine⟨?_,?_,?_,ae b f⟩
  ·rcases ae b f with e|e
   ·exact(a6 b e).1
   ·exact aE H.C.sz e
  ·rcases ae b f with e|e
   ·exact(a6 b e).2.1
   ·exact λD=>by have:=H.C.W.lt D;omega
  ·intro hs;rcases Q.sin b hs with e|e
   ·exact(R b f).1 e
   ·have:=Cm M f;omega
end
section
variable {g:Nat->Z×Z} {J:gW} {se a:List SI}
def FG(L:Bi y7 3 u A.sm (E0 (se.map λp=>(p.k,p.b))))(V:se[i]?=lj N)(E:ye y7 3 (iE N.k)=lj (eg5 gh N.k)):(Instr.lookup 93 (.map (lj A.sm)) (iE N.k) sd).run y7 u=.ok (iB N.b) u:=
 Bi.look_some sd L An7 underlying93 E (by
  grind)
def Anx(W:VW J c u)(b:Full cu h J c y u A o fa m se)(V:se[i]?=lj N)(M:ye y7 3 (iE N.k)=lj (eg5 gh N.k)):Bg y7 km J F 38 #[iB A.1,iE N.k] u λx O=>Y u O iH/\VW J c O/\x=iB N.b:=
 Bq (Gg Ae W (R:=λx _=>x=iB N.b) (λ_ _ a=>a) λL s=>(FH L A.1 A.sm N.b N.k (S (j:=3) ((s.same b.1.V.nv).trans b.1.V.1) iI) (FG (b.map.of_block (s.same b.1.12)) V M)).mono λe B a=>⟨⟨_,a.1,iI⟩,by rw[a.2];exact Y.refl _ _⟩) λx Z a=>⟨a.1,a.2.1,Aj⟩
def KT(b:Bool):Int:=if b then 18 else 0
def Anw{Post:PA y z}{K}{F:gR}(ab:It h z)(b:Io cu h z y c u A o fa m se r)(V:se[i]?=lj N)(ad:ye y7 3 (iE N.k)=lj (eg5 gh N.k))(J:o.down=sd)(ae:N.en=sd)(k:r[i]?=lj q)(B:OU y c u (Ho cu A fa se) A.D ob T I W)(p:Je q W F K t)(l:∀E L af G M,F=E++L::af->Ij h i E o (se.map SI.abs) G M->Yx h z y A.tb A.5 i L G M)(ah:∀Q S,Ij h i F o (se.map SI.abs) Q S->FT S/\(t=km->Q.down=sd)):Bg y7 km Ec (Mz Post) 27 #[iB A.1,iE N.k,I5 ob T (iK W) I] u λx O=>∃g G d f a,x=iE (KT G.down)/\Io g h z y c O A G d f a (r.set i (partOf (a.map SI.abs) i K))/\Rp u O A cu g fa d se a/\NG h i F t o (se.map SI.abs) G (a.map SI.abs):=by
 obtain⟨_,U,C,_⟩:=b.Q.one i N V;rw[k]at U;obtain rfl:=aB U;apply Bl func27 Ac iI (R:=λbn=>bn.getD 6 qp) (λ_ _=>zx Ac _ _ _) (λ_ _=>vk3 Ac _ _);unfold I5 at *;simp only[ntmps27,na,Nat.reduceAdd,Nat.reduceSub];refine Wqw ?_;refine Keu ?_;refine Wqw ?_;refine Wad ?_;refine A2 (Anx b.C.W b.F V ad) iI Ac iI Af ?_;rintro x au⟨e,ai,rfl⟩;walk_nrm;refine Keu ?_;have w:=b.kf e;refine M8j ?_;refine Gd2 ?_;refine Rgq ?_;refine K5o ?_;refine M8j ?_;refine Tfz ?_;refine A2 (Ym ai A.1 (B8 A.D A.tb A.wm A.sm o.last sd) sd (by have:=w.F.1.V.1;rwa[J]at this) iI w.F.1.V.nv) iI Ac iI Af ?_;rintro x Z⟨H,P,rfl⟩;walk_nrm;refine Rgq ?_;refine K5o ?_;have a1:=w.kf H;obtain⟨S2,_,_⟩:=a1.F.ses.one i N V;refine Mk2 ?_;refine Trb ?_;have c4:Z.cell? (iD N.b 4)=lj (gd sd):=by rw[←ae];exact S2.cell.2.2.1
 refine Bp c4 (VA _) ?_;walk_nrm;refine Keu ?_;refine N5y ?_;refine A0 ?_;refine Trb ?_;have v:=e.trans H;have B2:OU y c Z (Ho cu A fa se) A.D ob T I W:=⟨λX D=>by
  obtain⟨aj,ak,al,n,a6,R,Y,an⟩:=B.row X D;exact⟨aj,ak,al,n,a6,R,v.get Y id,an⟩,B.len,λao=>by
  obtain⟨X,D,aq⟩:=B.bby ao;obtain⟨_,_,_,_,a6,R,Y,_⟩:=B.row X D;exact⟨X,D,λar hj=>(Cg (v.block X (ltOf Y) id)).trans (aq ar hj)⟩⟩
 refine A2 (Aot (Post:=Post) ab a1 V k B2 p (p.ok C) Kj l ah) iI Ac iI T1 ?_;rintro x u3⟨rfl,g,G,d,f,a,j,G3,hR⟩;walk_nrm;refine Au ?_;simp only[A1];refine M8j ?_;refine Tfz ?_;refine A2 (Ym j.C.W A.1 (B8 A.D A.tb A.wm A.sm G.last G.down) G.down j.F.1.V.1 iI j.F.1.V.nv) iI Ac iI Af ?_;rintro x av⟨a7,W4,rfl⟩;walk_nrm;refine Ro8 ?_;have a8:=j.kf a7;have aa:=((Rp.kf (A:=A) (cu:=cu) (fa:=fa) (se:=se) v).trans G3).trans (Rp.kf a7);cases s:G.down with
 |true=>
  refine N5y ?_;exact P0t
 |false=>
  refine Ve5 ?_;exact P0t
end
def Aqi{c:gY}(h:c.size=6):∃y m a S n Y,c=#[y,m,a,S,n,Y]:=by
 have ⟨l⟩:=c
 match l,h with
 |[y,m,a,S,n,Y],_=>grind
section
variable {g:Nat->Z×Z} {j:gV} {J:gW} {se a:List SI} {p0:SI} {p:q9}
def vw0(u):VW Ec iH u:=⟨λ_ h=>h.elim,λ_ h=>h.elim,λ_ h=>h.elim,λ_ h=>h⟩
def Lw:List x8:=Lv++[12,28,37,24]
def Ak6:(Lw.all λf=>QO y7 Lw f)=km:=Ab
def Aqp:=Adu JO λf I=>cZ.1 Ak6 f I
def Aod{b f}(I:f∈Lw)(W:VW J c u){a:gY}{R:iA}(t:∀r,J (.obj r)->¬X r)(H:∀v,X4 c u v->Calls y7 f a v λe B=>(∃x,e=k8 x/\R x B)/\Y v B X):Bg y7 b J F f a u λx O=>Y u O X/\VW J c O/\∃U,(∀i,¬c i->U.1[i]?=O.1[i]?)/\iL U.1=iL O.1/\R x U:=by
 refine Bq (Na Aqp (show f∈Lw from I) W.rows W.blind W.low (A6 _ _) (R:=λe B=>∃v,X4 c u v/\(∃x,e=k8 x/\R x B)/\Y v B X) (λj v h=>?_) (λv h=>?_) (λv s=>(H v s).mono λe B h=>⟨v,s,h⟩)) ?_
 ·grind
 ·grind
 ·exact Qsu
def Nl{f}(I:f∈Lw){args:gY}{R:iA}(H:∀w:gk,(∀i:Nat,w.1[i]?=u.1[i]?)->iL w.1=iL u.1->Calls y7 f args w λe B=>(∃x,e=k8 x/\R x B)/\Y w B X):Bg y7 km Ec F f args u λx O=>Y u O X/\∃w,(∀i:Nat,w.1[i]?=O.1[i]?)/\iL w.1=iL O.1/\R x w:=
 Bq (Aod I (vw0 u) (X:=X) (R:=R) (λ_ h=>h.elim) λL s=>H L (λi=>s.same id) s.size) λx O h=>⟨h.1,Aj⟩
def Aky(s:u.1[b]?=lj (oh U p))(a:U[0]?=lj x):Bg y7 km Ec F 26 #[iB b] u λy O=>y=x/\Y u O iH:=
 Bq (Nl Ae (R:=λy _=>y=x) λw W N=>(Q8 w b x (S (j:=0) ((W b).trans s) a)).mono λc B h=>⟨⟨_,h.1,iI⟩,by rw[h.2];exact Y.refl _ _⟩) λy O h=>⟨Aj,h.1⟩
def OU.kf{v}(B:OU y c u v D ob T I W)(K:Ax u O iH):OU y c O v D ob T I W:=
 ⟨λX b=>by
  have ⟨m,d,S,n,a,e,Y,f⟩:=B.row X b;exact⟨m,d,S,n,a,e,K.get Y id,f⟩,B.len,λg=>by
  have ⟨X,b,o⟩:=B.bby g;have ⟨_,_,_,_,a,e,Y,_⟩:=B.row X b;exact⟨X,b,λj l=>(Cg (K.block X (ltOf Y) id)).trans (o j l)⟩⟩
def Acd{Post:PA y z}{K bs}{F:gR}(x:It h z)(H:Io cu h z y c u A o fa m se r)(s:u.1[b]?=lj (oh U p))(au:U[0]?=lj (iB A.1))(V:se[i]?=lj p0)(E:ye y7 3 (iE p0.k)=lj (eg5 gh p0.k))(J:o.down=sd)(C:p0.en=sd)(D:r[i]?=lj q)(B:OU y c u (Ho cu A fa se) A.D ob T I bs)(L:Je q bs F K t)(l:∀f j M G k,F=f++j::M->Ij h i f o (se.map SI.abs) G k->Yx h z y A.tb A.5 i j G k)(N:∀v w,Ij h i F o (se.map SI.abs) v w->FT w/\(t=km->v.down=sd)):Bg y7 km Ec (Mz Post) 10 #[iB b,iE p0.k,I5 ob T (iK bs) I] u λP O=>∃g G d e a,P=iE (KT G.down)/\Io g h z y c O A G d e a (r.set i (partOf (a.map SI.abs) i K))/\Rp u O A cu g fa d se a/\NG h i F t o (se.map SI.abs) G (a.map SI.abs):=by
 apply Bl func10 Ac iI (λ_ _=>zx Ac _ _ _) (λ_ _=>vk3 Ac _ _);simp only[ntmps10,na,Nat.reduceAdd,Nat.reduceSub];refine Wqw ?_;refine Keu ?_;refine Wqw ?_;refine V2g ?_;apply A2 (Aky s au) iI Ac iI Af;rintro P W⟨rfl,ad⟩;walk_nrm;refine Wad ?_;apply A2 (Anw (Post:=Post) x (H.kf ad) V E J C D (B.kf ad) L l N) iI Ac iI D2;rintro P n⟨g,G,d,e,a,rfl,Q,R,S⟩;walk_nrm;refine Keu ?_;exact Dt ⟨kr iI,iI,g,G,d,e,a,iI,Q,(Rp.kf ad).trans R,S⟩
def Xz.reSe(h:Xz cu c y u se r)(b:(a.map λp=>(p.k,p.b))=se.map λp=>(p.k,p.b))(s:∀j,Hg a j->Hg se j):Xz cu c y u a r:=
 ⟨λi d X=>by
  have ⟨p,C,J⟩:=Ll b i d X;have ⟨q,k,l,S,n,o,t⟩:=h.one i p C
  grind,λi j p e Q Y f=>by
  have ⟨m,C,J⟩:=Ll b i p Q;have ⟨M,T,g⟩:=Ll b j e Y;rw[J,g];exact h.apart i j m M C T f⟩
def SI.taken(p:SI):SI:={ p with lo:=[],ov:=qh jh 0 0 }
def Ajg(H:Io cu h z y c u A o fa m se r)(s:u.1[b]?=lj (oh U p))(Q:U[0]?=lj (iB A.1))(V:se[i]?=lj p0)(T:ye y7 3 (iE p0.k)=lj (eg5 gh p0.k)):Bg y7 km Ec F 12 #[iB b,iE p0.k] u λx O=>x=js #[p0.6,iE 0]/\Io cu h z y c O A o fa m (se.set i p0.taken) r/\Rp u O A cu cu fa fa se (se.set i p0.taken)/\O.ownsRow 0 5 1 p0.6 (iK p0.lo) (A4 p0.lo):=by
 obtain⟨q,Z,X⟩:=H.F.ses.one i p0 V;obtain⟨ad,M,hz,c0,a1,c4,B⟩:=q.row;obtain⟨G,I,v,S,n,a6,rfl⟩:=Aqi hz;obtain rfl:a6=p0.ov:=by simpa using B
 obtain⟨C,a7,Y⟩:=q.slice;rw[Y]at M;refine Bq (Nl (f:=12) Ae (X:=(· = p0.b)) (R:=λx w=>x=js #[p0.6,iE 0]/\w.1[p0.b]?=lj (oh #[G,I,v,S,n,qh jh 0 0] 84)) λw W ae=>(Al6 w b A.1 A.sm p0.b p0.k (cellOf (j:=0) ((W b).trans s) Q) (cellOf (j:=3) ((W A.1).trans H.F.1.V.1) iI) (FG (H.F.map.of_block (W _)) V T) G I v S n C (iK p0.lo) a7 ((W _).trans M)).mono λe w' a=>⟨⟨_,a.1,by rw[Y],?_⟩,?_⟩) ?_
 ·rw[a.2,heap_setCell,aL iI,W,M]
  rfl
 ·rw[a.2];exact Et w p0.b 5 _
 rintro x O⟨K,w,W,_,a8,D⟩;rw[W]at D;have aa:Gi cu Ec c O p0.b p0.k p0.ver p0.en (qh jh 0 0) []:=by
  refine⟨q.inb,q.j,⟨_,D,Ad,by simpa using c0,by simpa using a1,by simpa using c4,Ad⟩,⟨by simp[A4],r7 ⟨iI,iI⟩⟩,λg e=>HL,λaf L=>?_⟩;rw[D]at L;cases L;rw[Y]at B;have:=q.tl _ (Y▸M);simpa using this
 obtain⟨R,t⟩:=H.F.swap (p':=p0.taken) V H.C.sz (K.mono λj a=>r7 a) iI iI aa (λg e=>HL);have J:VW Ec c O:=⟨λj l=>by
  by_cases e:j=p0.b
  ·subst e;exact⟨_,_,_,D⟩
  ·rw[K.block j (H.C.W.lt l) e];exact H.C.W.rows j l,λ_ a=>a.elim,λ_ a=>a.elim,λ_ a=>a⟩
 have N:∀j,Hg (se.set i p0.taken) j->Hg se j:=λj⟨k,d,E,l⟩=>by
  by_cases e:i=k
  ·subst e;rw[bJ (aF.1 V).1]at E;obtain rfl:=aB E;rcases l with l|l
   ·exact⟨i,p0,V,r7 l⟩
   ·cases l
  ·rw[bE e]at E;exact⟨k,d,E,l⟩
 have ab:∀j,OR cu se j->j≠p0.b:=λj⟨k,d,E,l⟩e=>by
  obtain⟨_,_,_,_,_,_,f⟩:=H.Q.one k d E;exact(f j l).2.1 (e▸q.inb)
 refine⟨a8,⟨H.C.kx K J λj a=>by rwa[a],R,(H.Q.kx K ab).reSe t.kb N,Lj H.glob K λj a=>by rw[a];exact aE H.C.g8 Z⟩,⟨(K.mono λj a=>kr (r7 ⟨i,p0,V,r7 a⟩)),λj l=>?_,t.kb⟩,(Dh q.own λg P=>K.block g (Cm q.own P) λe=>q.ap g P (e▸q.inb))⟩;rcases l with a|a|a
 ·exact r7 (r7 a)
 ·exact r7 (kr (r7 (N j a)))
 ·exact r7 (kr (kr (t.pin (Ll t.kb) a)))
def Io.grow(H:Io cu h z y c u A o fa m se r)(W:VW Ec j u)(C:∀i,c i->j i)(J:∀i,j i->c i∨(y<=i/\¬Ho cu A fa se i/\i≠A.D)):Io cu h z y j u A o fa m se r:=by
 have S:=H.F.1;have n:∀i,A.has fa i->¬c i->¬j i:=λi l b D=>(J i D).elim b λa=>a.2.1 (r7 l);refine⟨⟨W,H.C.G,λi l=>(J i l).elim (H.C.3 i) λa=>aE H.C.g8 a.1,H.C.sz,H.C.g8⟩,⟨⟨⟨S.V.1,n _ (r7 iI) S.V.nv,S.V.ht,n _ (kr (kr (kr (r7 iI)))) S.V.4,n _ (kr (kr (kr (kr (r7 iI))))) S.V.nm,S.V.6,S.V.z2⟩,S.2,S.3,S.hw,S.5,S.6,S.7,S.st,S.9,S.l1,n _ (kr (kr (kr (kr (kr (r7 iI)))))) S.nw,n _ (kr (kr (kr (kr (kr (kr iI)))))) S.12,λD=>(J _ D).elim S.nD λa=>a.2.2 iI,n _ (kr (r7 iI)) S.nK,λg e=>n g (kr (kr (r7 e))) (S.nf g e),S.gv,S.gt,S.gm,S.gw,S.gs,S.gD,S.gK,S.gf,S.wmb,S.wsm,S.mbs⟩,⟨λi p Q=>⟨let T:=(H.F.ses.one i p Q).1;⟨C _ T.inb,T.j,T.row,T.own,λg e D=>(J g D).elim (T.ap g e) λa=>a.2.1 (kr (r7 ⟨i,p,Q,kr e⟩)),T.tl⟩,(H.F.ses.one i p Q).2⟩,H.F.ses.apart⟩,H.F.map⟩,⟨λi p Q=>?_,H.Q.apart⟩,H.glob⟩;have ⟨q,f,k,s,t,Y,d⟩:=H.Q.one i p Q;exact⟨q,f,k,s,t,Y,λg e=>⟨(d g e).1,λD=>(J g D).elim (d g e).2.1 λa=>a.2.1 (kr (kr ⟨i,p,Q,e⟩)),(d g e).2.2⟩⟩
end
section
variable {G g:Nat->Z×Z} {j:gV} {J:gW} {se a:List SI} {p:q9}
def Ld(k:Int)(N:Nat):SI:=⟨k,N,0,sd,[],qh jh 0 0⟩
def newRow(k:Int):Array Z:=#[iE k,qh jh 0 0,gd sd,iE 0,gd sd,qh jh 0 0]
def VM{N j}(h:Hg (se++[Ld k N]) j):Hg se j∨j=N:=by
 obtain⟨a,p,Q,l⟩:=h;by_cases K:a<iK se
 ·rw[fO K]at Q;exact r7 ⟨a,p,Q,l⟩
 ·rw[dK Aa]at Q;have d:a - iK se=0:=by
   have:=(aF.1 Q).1;simpa using this
  rw[d]at Q;obtain rfl:Ld k N=p:=by simpa using Q
  rcases l with l|l
  ·exact kr l
  ·cases l
def Ng{N a p}(Q:(se++[Ld k N])[a]?=lj p):(a<iK se/\se[a]?=lj p)∨(a=iK se/\p=Ld k N):=by
 grind
def Io.connect(H:Io G h z y c u A o f m se r)(ab:iK r=iK se)(J:o.down=sd)(K:Ax u O (λj=>j=A.1∨j=A.sm))(hv:O.1[A.1]?=lj (oh (B8 A.D A.tb A.wm A.sm k sd) 95))(D:O.1[iL u.1]?=lj (oh (newRow k) 84))(a1:Bi y7 3 O A.sm (E0 (se.map λp=>(p.k,p.b))++[(iE k,iB u.1.size)])):Io (Lg G u.1.size (qh jh 0 0,gd sd)) h z y (λj=>c j∨j=iL u.1) O A { o with last:=k } f m (se++[Ld k u.1.size]) (r++[[]]):=by
 have S:=H.F.1;have C:=H.C.sz;have x:A.has f A.svb:=r7 iI;have B:A.has f A.sm:=kr (kr (kr (kr (kr (kr iI)))));have n:∀j,j<iL u.1->¬c j->¬(c j∨j=iL u.1):=λj l a6 a=>a.elim a6 λb=>Aa;have N:∀j,(j=A.1∨j=A.sm)->y<=j:=by
  rintro j(rfl|rfl)
  ·exact S.gv
  ·exact S.gs
 have P:∀j,c j->¬(j=A.1∨j=A.sm):=by
  rintro j l(rfl|rfl)
  ·exact S.V.nv l
  ·exact S.12 l
 have X:∀j,Hg se j->¬(j=A.1∨j=A.sm):=by
  rintro j l(rfl|rfl)
  ·exact S.offS H.F.map H.F.ses x l
  ·exact S.offS H.F.map H.F.ses B l
 have E:∀j,OR G se j->¬(j=A.1∨j=A.sm):=λj⟨i,p,Q,l⟩a=>by
  obtain⟨_,_,_,_,R,_⟩:=H.Q.one i p Q;rcases a with rfl|rfl
  ·exact(H.F.offP R l).1 x
  ·exact(H.F.offP R l).1 B
 have a7:VW Ec (λj=>c j∨j=iL u.1) O:=⟨λj l=>by
  rcases l with l|rfl
  ·rw[K.block j (H.C.W.lt l) (P j l)];exact H.C.W.rows j l
  ·exact⟨_,_,_,D⟩,λ_ a=>a.elim,λ_ a=>a.elim,λ_ a=>a⟩
 have lt:∀j,A.has f j->j<iL u.1:=λj l=>H.F.lt (r7 l);have x6:∀g,Fq f=lj g->¬(g=A.1∨g=A.sm):=λg e a=>by
  obtain⟨cs,U⟩:=Kl S.st.row e;exact a.elim (Mm U S.V.1 Ad) λb=>D3 H.F.map U b.symm
 have I:Cx z y Ec c O:=H.C.kx K (H.C.W.ofK K P λ_ a=>a.elim) N;have F:∀i(p:SI),se[i]?=lj p->p.b<iL u.1:=λi p Q=>(H.F.ses.one i p Q).1.lt;refine⟨⟨a7,I.G,λj l=>l.elim (H.C.3 j) λb=>by rw[b];exact aE H.C.g8 C,I.sz,I.g8⟩,⟨⟨⟨by rwa[show({ o with last:=k }:ST).down=sd from J],n _ (lt _ x) S.V.nv,S.V.ht.kx K (λa=>a.elim (Mm S.V.ht.blk S.V.1 Ad) λb=>D3 H.F.map S.V.ht.blk b.symm) (λa=>a.elim (D3 S.V.ht.map S.V.1) S.mbs),n _ (lt _ (kr (kr (kr (r7 rfl))))) S.V.4,n _ (lt _ (kr (kr (kr (kr (r7 rfl)))))) S.V.nm,S.V.6,S.V.z2⟩,S.2,S.3,S.hw.keep (K.block _ (Bi.lt S.hw) (λa=>a.elim (D3 S.hw S.V.1) S.wsm)),S.5,S.6,K.get S.7 (λa=>a.elim (Mm S.7 S.V.1 Ad) λb=>D3 H.F.map S.7 b.symm),S.st.kx K (λa=>a.elim (Mm S.st.blk S.V.1 Ad) λb=>D3 H.F.map S.st.blk b.symm) x6,S.9,S.l1,n _ (lt _ (kr (kr (kr (kr (kr (r7 rfl))))))) S.nw,n _ (lt _ B) S.12,n _ (ltOf S.7) S.nD,n _ (lt _ (kr (r7 rfl))) S.nK,λg e=>n g (lt g (kr (kr (r7 e)))) (S.nf g e),S.gv,S.gt,S.gm,S.gw,S.gs,S.gD,S.gK,S.gf,S.wmb,S.wsm,S.mbs⟩,⟨λi p Q=>?_,λi w p q Q d t=>?_⟩,?_⟩,⟨λi p Q=>?_,λi w p q Q d t g e=>?_⟩,Lj H.glob K λj l=>aE H.C.g8 (N j l)⟩
 ·rcases Ng Q with⟨L,Q⟩|⟨rfl,rfl⟩
  ·obtain⟨T,a8,aa⟩:=H.F.ses.one i p Q;have v:=(T.kx K (X _ ⟨i,p,Q,r7 iI⟩) λg e=>X _ ⟨i,p,Q,kr e⟩).reCu (cu':=Lg G u.1.size (qh jh 0 0,gd sd)) (Iw _ _ (by have:=F i p Q;omega));exact⟨⟨r7 T.inb,v.j,v.row,v.own,λg e=>n g (Cm T.own e) (T.ap g e),v.tl⟩,a8,aa⟩
  ·refine⟨⟨kr iI,λ_ _ _=>VA _,⟨_,D,iI,iI,iI,iI,iI⟩,⟨by simp[A4,Ld],r7 ⟨iI,iI⟩⟩,λg b=>Af6,λae V=>?_⟩,C,λg b=>Af6⟩;rw[show(Ld k u.1.size).b=iL u.1 from iI,D]at V;cases V;rw[show(Ld k u.1.size).b=iL u.1 from iI,Ji];exact⟨iI,iI⟩
 ·rcases Ng Q with⟨L,Q⟩|⟨rfl,rfl⟩
  ·rcases Ng d with⟨W,d⟩|⟨rfl,rfl⟩
   ·exact H.F.ses.apart i w p q Q d t
   ·exact⟨by have:=F i p Q;show p.b≠iL u.1;omega,λg e b=>Af6⟩
  ·rcases Ng d with⟨W,d⟩|⟨rfl,rfl⟩
   ·exact⟨by have:=F w q d;show iL u.1≠q.b;omega,λg e=>HL⟩
   ·exact absurd iI t
 ·rw[cP];simpa[E0,Ld] using a1
 ·rcases Ng Q with⟨L,Q⟩|⟨rfl,rfl⟩
  ·have t:p.b≠iL u.1:=by have:=F i p Q;omega
   rw[Iw _ _ t];obtain⟨q,af,a2,a3,Z,ad,M⟩:=H.Q.one i p Q;have Y:∀g,(G p.b).1.ownBlock=lj g->O.1[g]?=u.1[g]?:=λg e=>K.block g (Cm Z e) (E g ⟨i,p,Q,e⟩);refine⟨q,by rwa[fO Aa],a2,a3,Dh Z Y,Ug (n:=0) (xs:=[]) ad Y,λg e=>⟨(M g e).1,n g (Cm Z e) (M g e).2.1,λs=>?_⟩⟩;rcases VM s with a|a
   ·exact(M g e).2.2 a
   ·have:=Cm Z e;omega
  ·rw[show(Ld k u.1.size).b=iL u.1 from iI,Ji];exact⟨[],by rw[←ab,dK (aC _)];simp,Kj,iI,⟨by simp[A4],r7 ⟨iI,iI⟩⟩,λg cc b=>Af6,λg b=>Af6⟩
 ·rcases Ng Q with⟨L,Q⟩|⟨rfl,rfl⟩
  ·rw[Iw _ _ (by have:=F i p Q;omega)]at e;rcases Ng d with⟨W,d⟩|⟨rfl,rfl⟩
   ·rw[Iw _ _ (by have:=F w q d;omega)];exact H.Q.apart i w p q Q d t g e
   ·rw[show(Ld k u.1.size).b=iL u.1 from iI,Ji];exact λb=>Af6
  ·rw[show(Ld k u.1.size).b=iL u.1 from iI,Ji]at e;cases e
def Abx(H:Io G h z y c u A o f m se r)(s:u.1[b]?=lj (oh U p))(n:U[0]?=lj (iB A.1))(D:iK r=iK se)(J:o.down=sd)(E:(o.last=0/\k=1)∨(o.last=1/\k=2))(I:iK se<8)(t:∀a∈se,a.k≠k):Bg y7 km Ec F 24 #[iB b] u λx O=>x=js #[iE k,iE 0]/\Io (Lg G u.1.size (qh jh 0 0,gd sd)) h z y (λj=>c j∨j=iL u.1) O A { o with last:=k } f m (se++[Ld k u.1.size]) (r++[[]])/\Y u O (λj=>j=A.1∨j=A.sm)/\iL u.1<iL O.1:=by
 have v:(E0 (se.map λa=>(a.k,a.b))).length<8:=by simpa[E0] using I
 have S:∀a∈E0 (se.map λa=>(a.k,a.b)),a.1≠iE k:=λa Q=>by
  simp only[E0,cW,aZ]at Q;obtain⟨x,Z,rfl⟩:=Q;intro e;simp only[Function.comp,Value.int.injEq]at e;exact t x Z e.2
 have l:u.1[A.1]?=lj (oh (B8 A.D A.tb A.wm A.sm o.last sd) 95):=by rw[←J];exact H.F.1.V.1
 refine Bq (Nl (f:=24) Ae (X:=λj=>j=A.1∨j=A.sm) (R:=λx w=>x=js #[iE k,iE 0]/\iL u.1<iL w.1/\w.1[A.1]?=lj (oh (B8 A.D A.tb A.wm A.sm k sd) 95)/\w.1[iL u.1]?=lj (oh (newRow k) 84)/\Bi y7 3 w A.sm (E0 (se.map λa=>(a.k,a.b))++[(iE k,iB u.1.size)])) λw W N=>?_) ?_
 ·refine(XA w b A.1 k (λB=>Y w B (λi=>i=A.1∨i=A.sm)/\iL w.1<iL B.1/\B.1[A.1]?=lj (oh (B8 A.D A.tb A.wm A.sm k sd) 95)/\B.1[iL w.1]?=lj (oh (newRow k) 84)/\Bi y7 3 B A.sm (E0 (se.map λa=>(a.k,a.b))++[(iE k,iB w.1.size)])) (cellOf (j:=0) ((W b).trans s) n) ?_).mono λe B L=>?_
  ·exact Abw w A.1 A.D A.tb A.wm A.sm o.last k _ (by rw[W,l]) E (H.F.map.of_block (W _)) v S
  ·obtain⟨rfl,C,g,T,q,d⟩:=L;rw[N]at g q d;exact⟨⟨_,iI,iI,g,T,q,d⟩,C⟩
 ·rintro x O⟨K,w,W,N,rfl,g,T,q,d⟩;rw[W]at T q;exact⟨iI,H.connect D J K T q (d.of_block (W _).symm),K,Aa⟩
end
def Dn:Dv:=⟨λf=>if f=50 then [1,12] else if f=72 then [4,29,36,43,51,60,79,84,102,110,133,145] else if f=126 then [3,22] else if f=127 then [3,28,58] else if f=128 then [3] else if f=129 then [3,39,43,47,53] else if f=130 then [3] else if f=131 then [3,23,72,112] else if f=132 then [4,35,54] else if f=133 then [4,36,54,109,127] else if f=173 then [4,24,43] else if f=176 then [3,16] else if f=177 then [5,18,27,36] else if f=197 then [4,12] else [],lj 51⟩
def Ln:List x8:=Lw++[18,33,43,50,51,52,72,74,126,127,128,129,130,131,132,133,173,176,177,197]
def Ak1:(Ln.all λf=>Yj y7 Ln Dn f)=km:=Ab
def Aqo:=VB JO (λg G=>by
 obtain rfl:51=g:=by simpa[Dn] using G
 exact⟨Ae,Ae⟩) λf I=>cZ.1 Ak1 f I
section
def Aoc{f}(I:f∈Ln)(b:Dn.at_ f = []){a:gY}{R:iA}(H:∀w:gk,(∀i:Nat,w.1[i]?=u.1[i]?)->iL w.1=iL u.1->Calls y7 f a w λe B=>(∃x,e=k8 x/\R x B)/\Y w B X):Bg y7 km Ec F f a u λx O=>Y u O X/\∃w,(∀i:Nat,w.1[i]?=O.1[i]?)/\iL w.1=iL O.1/\R x w:=by
 have W:=vw0 u;refine Bq (Na (S:=UG Ln Dn) (Bs:=λ_=>False) Aqo (show f∈Ln from I) W.rows W.blind W.low (λd l=>by rw[b]at l;cases l) (R:=λe B=>∃v,X4 iH u v/\(∃x,e=k8 x/\R x B)/\Y v B X) (λj v h=>?_) (λv h=>?_) (λv (s:X4 iH u v)=>(H v (λi=>s.same id) s.size).mono λe B h=>⟨v,s,h⟩)) ?_
 ·obtain⟨_,_,⟨x,e,_⟩,_⟩:=h;cases e
 ·obtain⟨_,_,⟨x,e,_⟩,_⟩:=h;cases e
 ·rintro x O⟨y,U,rfl,g,C,E,v,s,⟨z,e,c⟩,p⟩;cases e;exact⟨O3 s g C p E,U,λi=>Rb g C id,by rw[Bh,C.1],c⟩
end
section
variable {P:Program} {k:Bool} {J:gW} {f:x8}
def Me{K c}{b:gY}{d:uo→gk→Prop}(I:P.funcs[f]? = lj K)(s:(K.name == "runtime.NumGoroutine")=sd)(V:K.body=lj c)(o:Hp P k J F f c (λi a B=>(i=.normal∨i=.ret)∧a.defers = []∧∃v,(∀g,(results K a.tmps).run P (B.at g)=.ok v (B.at g))∧(∀g,∀i∈(results K a.tmps).events P (B.at g) #[],Ff J i)∧d v B) { tmps:=b++Array.replicate (K.ntmps - b.size) qp,defers:=[] } e):Bg P k J F f b e d:=by
 refine⟨K,c,I,s,V,λX cs L l=>?_⟩;have j:∀h(a:Act)B(v:uo),a.defers = []->(∀g,(results K a.tmps).run P _=.ok v _)->(∀g,∀i∈(results K a.tmps).events P _ #[],Ff J i)->d v B->EV P k J F (G { (base f).at a h with mode:=.returning } (X :: cs)) B:=λh a B v S Y N Q=>
  EV.step iI λz g=>⟨_,B.at g,Go.Pair.stepR_ret iI S iI I z (Y g) (N g),(l _ _ Q).at g⟩
 refine o _ [] _ iI iI λi m B⟨N,S,v,Y,r,Q⟩=>?_;rcases N with rfl|rfl
 ·exact EV.ctl (j [] m B v S Y r Q) iI iI λn H _=>stepG_end (a:=Bw n m)
 ·exact λh=>j h m B v S Y r Q
end
def PS(w)(s:gU):Jf (Lib.bytesCells w 5 s):=λx Z m=>by
 rcases cC.1 Z with h|h
 ·obtain⟨b,_,rfl⟩:=Array.mem_map.1 h;simp
 simp_all
section
variable {d:x8} {a:Act}
def Lx{l o}(s:gU){x}(O:g[i]?=lj o)(r:qy o (iu g a.tmps)=km)(T:o.op=.convert 9 37 x)(Z:a.eval x=pc s)(V:Oi y7 (env Lv) d o)(k:∀B c cs b,Y e B iH->B.1[iL e.1]?=lj (oh cs 5 b)->Jf cs->s.size<=c->Bytes B e.1.size 0 s.data.toList->opsV y7 km Ec F d g l Q (a.put o.dst (qh (lj (iC e.1.size)) s.size c)) B):opsV y7 km Ec F d g (i::l) Q a e:=by
 refine Dw (i:=i) (S:=env Lv) (vw0 e) O r V (A6 _ _) (X:=λ_=>False) (R:=λy U=>∃c cs b,y=qh (lj (iC e.1.size)) s.size c/\s.size<=c/\U.1[iL e.1]?=lj (oh cs 5 b)/\Jf cs/\Bytes U e.1.size 0 s.data.toList) (λ_ m=>m.elim) (λv q=>?_) ?_
 ·have N:=q.size;have M:=Lib.run_convert_string_bytes (P:=y7) v 9 37 5 s underlying9 underlying37 underlying5;refine⟨_,_,r7 ?_,⟨grownCap v s.size 0 5,_,_,by rw[←N],grownCap_ge _ _ _ _,by rw[←N];exact Lib.bytesWorld_at_new v 5 s,PS v s,λj f=>?_⟩,⟨?_,?_,?_,?_,λp E _=>Lib.bytesWorld_at_old v 5 s p E⟩⟩
  ·unfold execOp;rw[T];simp only[Z];simp[M,go_sem]
  ·rw[aX,←N,Lib.bytesWorld_cell v 5 s j (by simpa using f)]
   grind
  ·rfl
  ·rfl
  ·rfl
  ·rw[Lib.bytesWorld_size];omega
 ·rintro y B u K W h N⟨c,cs,b,rfl,M,D,n,t⟩;rw[h _ id]at D;exact k B c cs b K D n M λj f=>(Cg (h _ id).symm).trans (t j f)
def Aoa(I:hU)(c):Bg y7 km Ec F 86 #[qh I 0 c] u λq O=>q=js #[iE 0,iE 0,qh jh 0 0,iE 7]/\Y u O iH:=by
 apply Me func86 Ac iI;simp only[ntmps86,na,Nat.reduceAdd,Nat.reduceSub];refine Wqw ?_;refine Ldr ?_;refine Ro8 ?_;refine Wqw ?_;refine V2g ?_;refine A2 (Nl (f:=144) (args:=#[qh I 0 c]) Ae (X:=λ_=>False) (R:=λq _=>q=js #[qh jh 0 0,gd sd]) λe W f=>(Yd e I c).mono λa B Z=>⟨⟨_,Z.1,iI⟩,by rw[Z.2];exact Y.refl _ _⟩) iI Ac iI Af ?_;rintro q E⟨b,e,_,_,rfl⟩;refine Mtk ?_;refine Ro8 ?_;refine Mk2 ?_;refine Trb ?_
 iterate 3(refine Lgl ?_)
 refine Keu ?_;refine N5y ?_;refine Wqw ?_;refine Ldr ?_;refine Ro8 ?_;refine Dt ⟨kr iI,iI,js #[iE 0,iE 0,qh jh 0 0,iE 7],λd=>by simp[results,results86,go_sem],λd a N=>?_,iI,b⟩;simp[results,results86,go_sem]at N
structure Hj(e:gk)(D K:Nat):Prop where
 d:e.1[D]?=lj (oh #[iB K] 60)
 k:e.1[K]?=lj (oh #[qh jh 0 0,iE (-1)] 58)
def Hj.kx{X}(F:Hj u D K)(h:Y u O X)(C:¬X D)(J:¬X K):Hj O D K:=⟨h.get F.d C,h.get F.k J⟩
def Hj.kf(F:Hj u D K)(h:Y u O iH):=F.kx h id id
def Ajc(a:Hj u D K)(s:gU):Bg y7 km Ec F 87 #[iB D,pc s] u λy O=>y=pc iG/\Y u O iH:=
 Bq (Nl Ae (R:=λy _=>y=pc iG) λe W N=>(QC e D K (S (j:=0) ((W D).trans a.d) iI) (S (j:=0) ((W K).trans a.k) iI) s).mono λc B h=>⟨⟨_,h.1,iI⟩,by rw[h.2];exact Y.refl _ _⟩) λy O h=>⟨Aj,h.1⟩
def Aql(a:Hj u D K)(s:gU):Bg y7 km Ec F 60 #[iB D,pc s] u λy O=>y=gd sd/\Y u O iH:=
 Bq (Nl Ae (R:=λy _=>y=gd sd) λe W N=>(XE e D K (S (j:=0) ((W D).trans a.d) iI) (S (j:=0) ((W K).trans a.k) iI) s).mono λc B h=>⟨⟨_,h.1,iI⟩,by rw[h.2];exact Y.refl _ _⟩) λy O h=>⟨Aj,h.1⟩
def Afl(a:Hj u D K):Bg y7 km Ec F 21 #[iB D] u λy O=>y=gd sd/\Y u O iH:=
 Bq (Nl Ae (R:=λy _=>y=gd sd) λe W N=>(CC e D K (S (j:=0) ((W D).trans a.d) iI) (S (j:=1) ((W K).trans a.k) iI)).mono λc B h=>⟨⟨_,h.1,iI⟩,by rw[h.2];exact Y.refl _ _⟩) λy O h=>⟨Aj,h.1⟩
def Akl:Bg y7 km Ec F 88 #[] u λx O=>Y u O iH/\∃b t,x=iB b/\Ck O b t 0 [(⟨#[47]⟩,Jv)]/\iL u.1<=b/\iL u.1<=t:=
 Bq (Nl Ae (R:=λx e=>x=pdw (lj ⟨iL u.1+2,0,jh⟩)/\Ck e (iL u.1+2) (iL u.1+1) 0 [(⟨#[47]⟩,Jv)]) λe W N=>(Ag7 e).mono λa B h=>⟨⟨_,h.1,by rw[N],Aj⟩,Bo h.2.2⟩) λx O h=>by
  obtain⟨K,e,W,N,rfl,V⟩:=h;exact⟨K,_,_,iI,⟨(W _).symm.trans V.blk,V.map.of_block (W _).symm⟩,Aa,Aa⟩
def Ao0(b:Hj u D K):Bg y7 km Ec F 58 #[faj #[iB D]] u λx O=>Y u O iH/\∃a t,x=iB a/\Ck O a t 0 [(⟨#[47]⟩,Jv)]/\iL u.1<=a/\iL u.1<=t:=by
 apply Bl func58 Ac iI (R:=λv=>v.getD 2 qp) (λ_ _=>zx Ac _ _ _) (λ_ _=>vk3 Ac _ _);simp only[ntmps58,na,Nat.reduceAdd,Nat.reduceSub];refine C80 λZ H E=>?_;refine Keu ?_;refine Wqw ?_;refine V2g ?_;refine Bp (S (j:=0) E iI) (VA _) ?_;walk_nrm;refine A2 (Ajc (b.kf H) ⟨#[115,110,97,112,115,104,111,116]⟩) iI Ac iI Af ?_;rintro x B⟨rfl,J⟩;walk_nrm;refine Lx iG iI Ac iI iI (B7 Ab) λf c cs g W q h M o=>?_;walk_nrm;refine A2 (Aoa (lj (iC B.1.size)) c) iI Ac iI D2 ?_;rintro x k⟨rfl,d⟩;walk_nrm
 iterate 9(refine V2g ?_)
 refine Ro8 ?_;refine M8j ?_;refine Gd2 ?_;refine C7u ?_;refine Wqw ?_;refine A2 Akl iI Ac iI Af ?_;rintro x i⟨e,a,t,rfl,V,C,z⟩;walk_nrm;refine Keu ?_;have p:=((H.trans J).trans W).trans d;have s:=p.size;exact Dt ⟨kr iI,iI,p.trans e,a,t,iI,V,Aa,Aa⟩
def Si{B x}(V:¬B i):(Bb B x).1[i]?=x.1[i]?:=by
 rw[Bz]
 grind
def PO{E I a d}(K:Y (Bb I (Cb E a P)) d X)(F:De E a P)(y:De E a (Bb E d))(k:∀j,E j->¬I j):Y (Bb I P) (Bb E d) X:=by
 have b:(Bb I (Cb E a P)).1.size=(Bb I P).1.size:=by rw[Dc,Dc,Bh]
 refine⟨K.os,K.tape,K.output,by rw[Dc (w:=d),←b];exact K.size,λj l Z=>?_⟩;by_cases V:E j
 ·have ⟨c,e,g,C,J⟩:=y.blank j V;have ⟨B,f,H,T,q⟩:=F.blank j V;rw[C]at T;cases T;rw[J,Si (k j V),q]
 ·rw[Si V,K.block j (b▸l) Z,Bz,Bz,By V]
def Agy{R}{Post:PA y R}{cb U b H t a f}{m:gY}(E:Ds Ec v cb U b H t [] ob T a [])(aa:y<=iL v.1)(Y:y<=cb)(j:∀X,ob=lj X->y<=X)(L:t.ownBlock=jh):Bg y7 km Ec (Mz Post) 46 #[pdw (lj (iD cb U)),I5 ob T 0 a,.func (.func f) #[] m] v λr e=>r=gd km/\Ax v e (· = cb):=by
 have q:=ltOf E.blk;have s:∀g,ob=lj g->g<iL v.1:=λg h=>by
  obtain⟨_,_,o,c,fz,w,_⟩:=E.brow g h;exact ltOf w
 have W:∀g,g<iL v.1->ob≠lj g->¬Ls v.1.size ob t.ownBlock g:=by
  rintro g l a8(h|h|h|h|h|h)
  ·omega
  ·omega
  ·omega
  ·omega
  ·exact a8 h
  ·rw[L]at h;cases h
 have F:∀u O,Fc v cb U (I5 ob T 0 a) KK u->Fc v cb U (I5 ob T 0 a) KK O->∀g,g=iL v.1∨g=iL v.1+2∨ob=lj g∨t.ownBlock=lj g->(Bb (Ls v.1.size ob t.ownBlock) u).1[g]?=(Bb (Ls v.1.size ob t.ownBlock) O).1[g]?:=λu O h n g l=>by
  rw[Bz,Bz];rcases l with rfl|rfl|c|c
  ·rw[h.3,n.3]
  ·rw[h.b2,n.b2]
  ·obtain⟨_,_,o,e',fz,z,_⟩:=E.brow _ c;rw[h.K.get z id,n.K.get z id]
  ·rw[L]at c;cases c
 have A:∀g,y<=g->¬Post.TA g:=λg l V=>by have:=Post.lt g V;omega
 have nB:∀g,Post.TA g->¬Ls v.1.size ob t.ownBlock g:=λg V=>by
  have:=Post.lt g V;exact W g Aa λh=>A g (j g h) V
 refine Bq (Ai3 (A:=Post) (I:=λZ x=>Z = []/\∃P,Fc v cb U (I5 ob T 0 a) KK P/\De Post.TA Post.base P/\Ax (Bb (Ls v.1.size ob t.ownBlock) (Cb Post.TA Post.base P)) x iH) E (A _ Y) (λX D=>A _ (j X D)) (λa7 G=>by rw[L]at G;cases G) (.done []) Kj ?_ ?_ (λu z p=>⟨iI,u,z,p,Ax.refl _ _⟩) ?_ ?_) ?_
 ·rintro Z x S⟨h,P,z,p,K⟩;exact⟨h,P,z,p,K.at S⟩
 ·rintro ab ad x⟨h,_⟩;cases h
 ·rintro u z _ x⟨_,P,i,d,K⟩;have N:(Bb (Ls v.1.size ob t.ownBlock) (Cb Post.TA Post.base P)).1.size=iL v.1+5:=by rw[Dc,Bh,i.size]
  refine⟨λg l=>?_,⟨H,(K.get ((Jn _ _).get (by rw[By (A _ Y)];exact i.K.get E.blk id) (W cb q λc=>(E.brow cb c).2.1 iI)) id),iI⟩,N▸K.size⟩
  ·have I:y<=g:=by
    rcases l with h|h|h|h
    ·omega
    ·omega
    ·exact j g h
    ·rw[L]at h;cases h
   rw[F u P z i g l];have a1:(Bb (Ls v.1.size ob t.ownBlock) P).1[g]?=(Bb (Ls v.1.size ob t.ownBlock) (Cb Post.TA Post.base P)).1[g]?:=by rw[Bz,Bz,By (A g I)]
   rw[a1];refine K.block g ?_ id;rw[N];rcases l with h|h|h|h
   ·omega
   ·omega
   ·have:=s g h;omega
   ·rw[L]at h;cases h
 ·rintro x⟨_,P,i,d,K⟩g V;have J:(Bb (Ls v.1.size ob t.ownBlock) (Cb Post.TA Post.base P)).1[g]?=Post.base.1[g]?:=by rw[Si (nB g V),Dy d V]
  obtain⟨o,c,fz,C⟩:=Post.rows g V;rw[←J];exact K.block g (ltOf (J.trans C)) id
 ·rintro r e⟨rfl,a6,⟨_,P,i,d,K8⟩,Q,M⟩;have K:=PO K8 d Q nB;generalize Bb Post.TA a6=vA at K M;have N:(Bb (Ls v.1.size ob t.ownBlock) P).1.size=iL v.1+5:=by rw[Dc,i.size]
  have ax:iL v.1+5<=iL vA.1:=N▸K.size;have B:Ax v (Bb (Ls v.1.size ob t.ownBlock) P) (Ls v.1.size ob t.ownBlock):=(i.K.mono λ_ h=>h.elim).trans (Jn P _);refine⟨iI,M.K.os.trans (K.os.trans B.os),M.K.tape.trans (K.tape.trans B.tape),M.K.output.trans (K.output.trans B.output),aE (aE Aa ax) M.K.size,λg l a8=>?_⟩;by_cases k:ob=lj g
  ·exact M.b g k
  ·rw[M.K.block g Aa ?_,K.block g Aa id,B.block g l (W g l k)];rintro(h|h|h|h|h)
   ·exact a8 h
   ·omega
   ·omega
   ·exact k h
   ·rw[L]at h;cases h
def Aob{R}{Post:PA y R}(l:y<=iL u.1)(F:Hj u D K)(d)(L:8<=iL u.1)(G:∀i,i<8->∃c b f,u.1[i]?=lj (oh c b f)):Bg y7 km Ec (Mz Post) 59 #[faj #[iB D],iB d] u λP O=>P=js #[]/\Ax u O iH:=by
 apply Bl func59 Ac iI (R:=λ_=>js #[]) (λ_ _=>results_none Ac _ _ _) (λ_ _=>jil Ac _ _);simp only[ntmps59,na,Nat.reduceAdd,Nat.reduceSub];refine C80 λZ H E=>?_;apply Dk (#[iB d]) 90;walk_nrm;have J:=Ba Z #[iB d] 90 iH;generalize Z.alloc (oh #[iB d] 90)=B at J⊢;refine Ro8 ?_;refine Wqw ?_;apply Dk (#[qh jh 0 0,gd sd]) 82;walk_nrm;have W:=Ba B #[qh jh 0 0,gd sd] 82 iH;have q:(B.alloc (oh #[qh jh 0 0,gd sd] 82)).1[iL B.1]?=lj (oh #[qh jh 0 0,gd sd] 82):=iw _ _;generalize B.alloc (oh #[qh jh 0 0,gd sd] 82)=z at W q⊢;refine Ro8 ?_;have a:=(H.trans J).trans W;refine Tfz ?_;refine Bp (S (j:=0) ((J.trans W).get E id) iI) (VA _) ?_;walk_nrm;refine A2 (Ajc (F.kf a) ⟨#[108,111,103]⟩) iI Ac iI Af ?_;rintro P w⟨rfl,r⟩;walk_nrm;refine Lx iG iI Ac iI iI (B7 Ab) λv c cs f t A o M p=>?_;walk_nrm;refine V2g ?_;have C:=(a.trans r).trans t;have n:=H.size;have V:=J.size;have s:=W.size;have T:=r.size;have N:=ltOf q;have g:Ds Ec v B.1.size 0 82 #[qh jh 0 0,gd sd] (qh jh 0 0) [] (lj w.1.size) 0 c []:=by
  refine⟨Lj G C λ_ h=>h.elim,(r.trans t).get q id,iI,iI,⟨by simp[A4],r7 ⟨iI,iI⟩⟩,λk x b=>Af6,Aa,λk b=>Af6,λX b=>?_,bF _,λh=>absurd iI h,⟨λ_ h=>h,λ_ h=>h.elim⟩⟩
  grind
 refine A2 (Agy (Post:=Post) (f:=90) g (by have:=C.size;omega) Aa (λX b=>Aj) iI) iI Ac iI T1 ?_;rintro P e⟨rfl,m⟩;walk_nrm;exact Au ⟨r7 iI,iI,trivial,C.trans' m λj h Y=>Aa⟩
end
section
variable {Post:PA y z}
def EM{l o u a}(x)(O:g[i]?=lj o)(W:qy o (iu g a.tmps)=km)(V:Oi y7 (env Lv) u o)(Y:∀L:gk,(∀j:Nat,L.1[j]?=e.1[j]?)->Go.Pair.Yields y7 (execOp a.eval o) L x L)(b:∀B,Ax e B iH->opsV y7 km Ec F u g l Q (a.put o.dst x) B):opsV y7 km Ec F u g (i::l) Q a e:=by
 apply Dw (vw0 e) O W V (A6 _ _) (X:=λ_=>False) (R:=λy U=>y=x) (λ_ h=>h.elim) (λL c=>⟨x,L,Y L λj=>c.same id,iI,Ax.refl _ _⟩)
 grind
def Ad3{l o u a}(b d){I}(D:e.1[b]?=lj (oh cs I))(O:g[i]?=lj o)(W:qy o (iu g a.tmps)=km)(V:Oi y7 (env Lv) u o)(Y:∀L:gk,L.1[b]?=lj (oh cs I)->∃p,Go.Pair.Yields y7 (execOp a.eval o) L qp p/\Br L p b d I)(f:∀B,Ax e B (· = b)->B.1[b]?=lj (oh d I)->opsV y7 km Ec F u g l Q (a.put o.dst qp) B):opsV y7 km Ec F u g (i::l) Q a e:=by
 refine Dw (i:=i) (vw0 e) O W V (A6 _ _) (X:=(· = b)) (R:=λy U=>y=qp/\U.1[b]?=lj (oh d I)) (λ_ h=>h.elim) (λL c=>?_) ?_
 ·have ⟨p,C,J⟩:=Y L ((c.same id).trans D);exact⟨qp,p,C,⟨iI,J.blk⟩,Ax.of_grown J.grown (r7 iI)⟩
 grind
def We{l o u a}(b D){x y}(d:e.1[b]?=lj (oh #[pdw jh] 89))(O:g[i]?=lj o)(W:qy o (iu g a.tmps)=km)(V:Oi y7 (env Lv) u o)(T:o.op=.store 89 x y)(Z:a.eval x=iB b)(U:a.eval y=faj #[iB D])(f:∀B,Y e B (· = b)->B.1[b]?=lj (oh #[iB D] 89)->opsV y7 km Ec F u g l Q (a.put o.dst qp) B):opsV y7 km Ec F u g (i::l) Q a e:=by
 refine Ad3 b #[pdw _] d O W V (λL c=>⟨L.setCell (iC b) _,kr ⟨?_,iI⟩,(Br.refl c).set 0 _⟩) f;have c0:=Vi 0 c;have h:=Dm (j:=0) c;unfold execOp;rw[T];simp only[Z,U];go_simp
def Mp{l o u a}(b D){x t}(R:t=89∨t=60){S}(d:e.1[b]?=lj (oh #[iB D] S))(O:g[i]?=lj o)(W:qy o (iu g a.tmps)=km)(V:Oi y7 (env Lv) u o)(T:o.op=.load t x)(Z:a.eval x=iB b)(c:∀B,Y e B iH->opsV y7 km Ec F u g l Q (a.put o.dst (faj #[iB D])) B):opsV y7 km Ec F u g (i::l) Q a e:=by
 refine EM _ O W V (λL f=>r7 ?_) c;have c0:=Vi 0 ((f b).trans d);unfold execOp;rw[T];rcases R with rfl|rfl
 ·simp only[Z];go_simp
 ·simp only[Z];go_simp
def Aol(a8:y<=iL u.1)(F:Hj u D K)(h8:8<=iL u.1)(G:∀k,k<8->∃x l fz,u.1[k]?=lj (oh x l fz)):Bg y7 km Ec (Mz Post) 45 #[iB D] u λP O=>Ax u O iH/\∃s t,P=js #[faj #[iB D],iB s,gd km]/\Ck O s t 0 [(⟨#[47]⟩,Jv)]/\iL u.1<=s/\iL u.1<=t:=by
 refine Me func45 Ac iI ?_;simp only[ntmps45,na,Nat.reduceAdd,Nat.reduceSub];refine Wqw ?_;refine Dk (#[pdw jh]) 89 ?_;walk_nrm;have c:=Ba u #[pdw jh] 89 iH;have f:(u.alloc (oh #[pdw jh] 89)).1[iL u.1]?=lj (oh #[pdw jh] 89):=iw _ _;generalize u.alloc (oh #[pdw jh] 89)=Z at c f⊢;refine Wad ?_;refine Ro8 ?_;refine Wqw ?_;refine Wad ?_;refine Odz λA J b2=>?_;intro E W q;walk_nrm;refine Ro8 ?_;have aa:=c.size;have ae:=J.size;have l1:=ltOf f;have af:=W.size;have a:Ax u E iH:=(c.trans J).trans' W λB h C=>Aa;have I:=F.kf a;have R:E.1[iL u.1]?=lj (oh #[pdw jh] 89):=W.get (J.get f id) Aa;refine Wqw ?_;refine Mp Z.1.size D (r7 iI) q iI Ac (B7 Ab) iI Ac λah S=>?_;walk_nrm;refine A2 (Ao0 (I.kf S)) iI Ac iI Af ?_;rintro P u4⟨T,s,t,rfl,U,ai,z⟩;walk_nrm;refine Keu ?_;have p:=S.trans T;have aj:=S.size;have b:=I.kf p;have o:=p.get q id;have ak:=a.size;have al:=p.size;refine Wqw ?_;refine Mp Z.1.size D (r7 iI) o iI Ac (B7 Ab) iI Ac λan L=>?_;walk_nrm;refine V2g ?_;have ao:=L.size;refine A2 (Aob (Post:=Post) (by have:=((a.trans p).trans L).size;omega) (b.kf L) s Aa (Lj G ((a.trans p).trans L) λ_ h=>h.elim)) iI Ac iI Af ?_;rintro P m⟨rfl,H⟩;walk_nrm;refine Ro8 ?_;have e:=L.trans H;have v:=b.kf e;refine M8j ?_;refine Tfz ?_;refine A2 (Aql v ⟨#[108,111,103]⟩) iI Ac iI Af ?_;rintro P w⟨rfl,r⟩;walk_nrm;have au:=v.kf r;refine V2g ?_
 iterate 4(refine Lgl ?_)
 refine Trb ?_;refine A2 (Afl au) iI Ac iI Af ?_;rintro P ab⟨rfl,ad⟩;walk_nrm;refine Keu ?_;refine Ve5 ?_;have n:=(e.trans r).trans ad;have V:=n.get o id;have Y:=n.get (p.get R id) id;refine Wqw ?_;refine Mp Z.1.size D (r7 iI) V iI Ac (B7 Ab) iI Ac λaq d=>?_;walk_nrm;refine V2g ?_;have a1:=d.get Y id;refine We u.1.size D a1 iI Ac (B7 Ab) iI Ac Ac λQ X M=>?_;walk_nrm;refine Wad ?_;refine Ro8 ?_;have g:=((a.trans p).trans n).trans d;have a6:=U.kx (n.trans d) id id;have a7:=a6.kx X (show ¬s=iL u.1 by omega) (show ¬t=iL u.1 by omega);refine Dt ⟨kr iI,iI,js #[faj #[iB D],iB s,gd km],λi=>?_,λi l N=>?_,g.trans' X λB h C=>Aa,s,t,iI,a7,Aa,Aa⟩
 ·have j:=Vi (w:=(Q.at i)) 0 M;simp[results,results45,go_sem,j]
 ·have j:=Vi (w:=(Q.at i)) 0 M;simp[results,results45,go_sem,j]at N;subst N;exact Cl (VA _)
structure GD(e:gk)(B svb D K tb mb wm sm:Nat):Prop where
 hv:e.1[svb]?=lj (oh (B8 D tb wm sm 0 sd) 95)
 ht:Ck e tb mb 0 [(⟨#[47]⟩,Jv)]
 hw:Lf e wm []
 hm:Bi y7 3 e sm []
 F:Hj e D K
 gv:B<=svb
 gt:B<=tb
 gm:B<=mb
 gw:B<=wm
 gs:B<=sm
 wsm:wm≠sm
 wmb:wm≠mb
 mbs:mb≠sm
def GD.kf{B z a t}(h:GD u B z D K a t M sm)(b:Y u O iH):GD O B z D K a t M sm:=
 ⟨b.get h.1 id,h.ht.kx b id id,h.hw.keep (b.block _ (Bi.lt h.hw) id),h.hm.of_block (b.block _ h.hm.lt id),h.F.kf b,h.gv,h.gt,h.gm,h.gw,h.gs,h.wsm,h.wmb,h.mbs⟩
def MP{l o u a}(O:g[i]?=lj o)(W:qy o (iu g a.tmps)=km)(V:Oi y7 (env Lv) u o)(Y:∀L:gk,Go.Pair.Yields y7 (execOp a.eval o) L (.map (lj L.1.size)) (L.alloc (.map #[] 0)))(b:∀B,Ax e B iH->B.1[iL e.1]?=lj (.map #[] 0)->opsV y7 km Ec F u g l Q (a.put o.dst (.map (lj e.1.size))) B):opsV y7 km Ec F u g (i::l) Q a e:=by
 refine Dw (vw0 e) O W V (A6 _ _) (X:=λ_=>False) (R:=λy U=>y=.map (lj e.1.size)/\U.1[iL e.1]?=lj (.map #[] 0)) (λ_ h=>h.elim) (λL c=>?_) ?_
 ·exact Pzx
 grind
def Aok(l:y<=iL u.1)(F:Hj u D K)(I:8<=iL u.1)(G:∀i,i<8->∃j b fz,u.1[i]?=lj (oh j b fz)):Bg y7 km Ec (Mz Post) 36 #[iB D] u λx O=>Ax u O iH/\∃z f t M sm,x=js #[iB z,iE 0]/\GD O u.1.size z D K f t M sm:=by
 refine Me func36 Ac iI ?_;simp only[ntmps36,na,Nat.reduceAdd,Nat.reduceSub];refine Wqw ?_;refine Wad ?_;refine Ro8 ?_;refine Mk2 ?_
 iterate 5(refine V2g ?_)
 refine Mp D K (kr iI) F.d iI Ac (B7 Ab) iI Ac λP B=>?_;walk_nrm;refine V2g ?_;refine Qh iI Ac λd=>⟨gd sd,P.at d,Ae0 (λn e _=>?_) (λn e=>?_),IK ?_ d⟩
 ·unfold Fp;simp[Bw]
  kernel_rfl
 ·unfold Fp;simp[Bw]
  kernel_rfl
 walk_nrm;refine Keu ?_;refine Ve5 ?_;refine Wqw ?_;refine V2g ?_;have s:=B.size;refine A2 (Aol (Post:=Post) (by have:=B.size;omega) (F.kf B) Aa (Lj G B λ_ h=>h.elim)) iI Ac iI Af ?_;rintro x Z⟨m,f,t,rfl,R,w,Q⟩;have H:=B.trans m;walk_nrm;refine Ldr ?_;refine Odz λA J b2=>?_;intro E W q;walk_nrm;refine Wad ?_;refine Ro8 ?_;have g:Ax Z E iH:=J.trans' W λT h V=>Aa;refine M8j ?_;refine Gd2 ?_;refine Rgq ?_;refine K5o ?_;refine Wqw ?_;refine Mp Z.1.size D (r7 iI) q iI Ac (B7 Ab) iI Ac λC S=>?_;walk_nrm;refine V2g ?_;refine MP iI Ac (B7 Ab) (λL=>r7 iI) ?_;intro k p b4;walk_nrm;refine MP iI Ac (B7 Ab) (λL=>r7 iI) ?_;intro v a o;walk_nrm;refine V2g ?_;refine Dk (B8 D f C.1.size k.1.size 0 sd) 95 ?_;walk_nrm;have r:=Ba v (B8 D f C.1.size k.1.size 0 sd) 95 iH;have c:(v.alloc (oh (B8 D f C.1.size k.1.size 0 sd) 95)).1[iL v.1]?=lj (oh (B8 D f C.1.size k.1.size 0 sd) 95):=iw _ _;generalize v.alloc (oh (B8 D f C.1.size k.1.size 0 sd) 95)=X at r c⊢;refine Wad ?_;refine Ro8 ?_;have U:=(((g.trans S).trans p).trans a).trans r;have Y:=S.size;have a1:=H.size;have a6:=g.size;have a7:=p.size;have a8:=a.size;have l4:=ltOf b4;have l5:=ltOf o;have lm:=R.map.lt;refine Dt ⟨kr iI,iI,js #[iB v.1.size,iE 0],λd=>by simp[results,results36,go_sem],λd b N=>?_,H.trans U,_,f,t,iL C.1,iL k.1,iI,c,R.kx U id id,⟨⟨#[],0,(a.trans r).get b4 id,by simp[qn],iI⟩,Ad⟩,⟨⟨#[],0,r.get o id,by simp[qn],iI⟩,Ad⟩,F.kf (H.trans U),Aa,Aa,Aa,Aa,Aa,Aa,Aa,Aa⟩
 ·simp[results,results36,go_sem]at N
def Aqm(l:y<=iL u.1)(F:Hj u D K)(I:8<=iL u.1)(G:∀i,i<8->∃c e fz,u.1[i]?=lj (oh c e fz)):Bg y7 km Ec (Mz Post) 23 #[iB D] u λa O=>Y u O iH/\∃P z b t M sm,a=js #[iB P,iE 0]/\O.1[P]?=lj (oh #[iB z] 78)/\iL u.1<=P/\GD O u.1.size z D K b t M sm:=by
 apply Me func23 Ac iI;simp only[ntmps23,na,Nat.reduceAdd,Nat.reduceSub];refine Wqw ?_;refine Wad ?_;refine Ro8 ?_;refine Wqw ?_;refine V2g ?_;refine A2 (Aok (Post:=Post) l F I G) iI Ac iI Af ?_;rintro a v⟨H,z,b,t,M,sm,rfl,x⟩;refine Mtk ?_;refine Ro8 ?_;refine M8j ?_;refine Gd2 ?_;refine Rgq ?_;refine K5o ?_;refine Wqw ?_;refine Wad ?_;refine Dk (#[iB z]) 78 ?_;walk_nrm;have J:=Ba v #[iB z] 78 iH;have f:(v.alloc (oh #[iB z] 78)).1[iL v.1]?=lj (oh #[iB z] 78):=iw _ _;generalize v.alloc (oh #[iB z] 78)=B at J f⊢;refine Wad ?_;refine Ro8 ?_;refine Dt ⟨kr iI,iI,js #[iB v.1.size,iE 0],λd=>by simp[results,results23,go_sem],λd e N=>?_,H.trans J,_,z,b,t,M,sm,iI,f,H.size,x.kf J⟩;simp[results,results23,go_sem]at N
end
def σ0:ST:=⟨0,sd,0,[(⟨#[47]⟩,Jv)],[],-1,[]⟩
structure J3(u u')(F F':gV):Prop where
 K:Ax u u' F
 new:∀j,F' j->F j∨iL u.1<=j
def J3.trans{U F R a}(h:J3 u O F R)(k:J3 O U R a):J3 u U F a:=
 ⟨h.K.trans' k.K λj l b=>(h.new j l).elim id λe=>Aa,λj l=>(k.new j l).elim (h.new j) λe=>kr (aE h.K.size e)⟩
def J3.kf{F}(K:Y u O iH):J3 u O F F:=⟨K.mono λ_ h=>h.elim,λ_ h=>r7 h⟩
def Rp.moved{L X:Nat->Z×Z}{v C se a}(h:Rp u O A L X v C se a):J3 u O (Ho L A v se) (Ho X A C a):=⟨h.K,h.new⟩
def Apf:Rr 0 [(⟨#[47]⟩,Jv)]:=by
 refine⟨Ae,Ae,Ae,λq f=>?_,λq f=>?_⟩
 ·simp only[eU]at f;subst f;exact⟨Ae,Ab⟩
 grind
section
variable {G:Nat->Z×Z} {B a tb t:Nat}
def GD.fuld(b:GD u B a D K tb t M sm)(C:Cx z y Ec c u)(d:∀i,i<8->∃g e fz,u.1[i]?=lj (oh g e fz))(l:h (Hx ⟨#[47]⟩)=km)(r:y<=B)(k:∀j,c j->j<B)(L:y<=D)(v:y<=K)(N:¬c D)(W:¬c K):Io G h z y c u ⟨a,D,K,tb,t,M,sm⟩ σ0 jh 0 [] []:=by
 have n:∀j,B<=j->¬c j:=λj s m=>by have:=k j m;omega
 have w:=b.gv;have x:=b.gt;have A:=b.gm;have Z:=b.gw;have F:=b.gs;refine⟨C,⟨⟨⟨b.1,n _ b.gv,b.ht,n _ b.gt,n _ b.gm,Ae,Ae⟩,Apf,⟨λq f=>?_⟩,b.hw,gM,λH E=>(by cases E),b.F.d,⟨b.F.k,⟨by simp[Es,σ0],r7 ⟨iI,iI⟩⟩⟩,Ae,Ae,n _ b.gw,n _ b.gs,N,W,λo d=>(by cases d),by show y<=a;omega,by show y<=tb;omega,by show y<=t;omega,by show y<=M;omega,by show y<=sm;omega,L,v,λo d=>(by cases d),b.wmb,b.wsm,b.mbs⟩,⟨λi p Q=>(by simp at Q),λi j p q Q=>(by simp at Q)⟩,b.hm⟩,⟨λi p Q=>(by simp at Q),λi j p q Q=>(by simp at Q)⟩,d⟩;simp only[σ0,eU]at f;subst f;have e:Hx ⟨#[47]⟩=⟨#[]⟩:=Ab;exact⟨Ae,l,Ae⟩
def GD.foot(h:GD u B a D K tb t M sm)(l:Ho G ⟨a,D,K,tb,t,M,sm⟩ jh [] j):j=K∨B<=j:=by
 rcases l with(rfl|rfl|l|rfl|rfl|rfl|rfl)|⟨i,p,Q,_⟩|⟨i,p,Q,_⟩
 ·exact kr h.gv
 ·exact r7 iI
 ·cases l
 ·exact kr h.gt
 ·exact kr h.gm
 ·exact kr h.gw
 ·exact kr h.gs
 ·simp at Q
 ·simp at Q
end
def MG{a:Type}(l b)(f:a->a):(l++[b]).modify (iK l) f=l++[f b]:=by
 induction l with
 |nil=>rfl
 |cons x l O=>simpa using O
def OA{a:Type}(l)(c b:a):(l++[c]).set (iK l) b=l++[b]:=by
 grind
section
variable {G g:Nat->Z×Z} {Post:PA y z} {se:List SI} {p:q9} {d:x8} {a:Act}
def YK{g l o}(ob)(X:hQ)(O:g[i]?=lj o)(W:qy o (iu g a.tmps)=km)(V:Oi y7 (env Lv) d o)(Y:∀L:gk,Go.Pair.Yields y7 (execOp a.eval o) L (X L.1.size) (L.alloc ob))(b:∀B,Ax e B iH->B.1[iL e.1]?=lj ob->opsV y7 km Ec F d g l Q (a.put o.dst (X e.1.size)) B):opsV y7 km Ec F d g (i::l) Q a e:=by
 refine Dw (vw0 e) O W V (A6 _ _) (X:=λ_=>False) (R:=λy U=>y=X e.1.size/\U.1[iL e.1]?=lj ob) (λ_ h=>h.elim) (λL c=>?_) ?_
 ·exact Pzx
 grind
def Uu{g l o}(t)(b:gT){x}(c:e.ownsRow 0 5 1 t (iK b) (A4 b))(O:g[i]?=lj o)(W:qy o (iu g a.tmps)=km)(V:Oi y7 (env Lv) d o)(T:o.op=.convert 37 9 x)(Z:a.eval x=t)(f:∀B,Y e B iH->opsV y7 km Ec F d g l Q (a.put o.dst (pc ⟨b.toArray⟩)) B):opsV y7 km Ec F d g (i::l) Q a e:=by
 refine EM (pc ⟨b.toArray⟩) O W V (λL h=>r7 ?_) f;unfold execOp;rw[T];simp only[Z];simp[(Tz (Dh c λj _=>h j)),go_sem]
def FT.mod(h:FT l)(i)(f:AS->AS)(I:∀a∈l,(f a).k=a.k/\(f a).lo.length<=9000000000):FT (l.modify i f):=by
 have L:∀p∈l.modify i f,∃a∈l,p=a∨p=f a:=λp Q=>by
  obtain⟨j,c⟩:=List.mem_iff_getElem?.1 Q
  grind
 refine⟨by rw[List.length_modify];exact h.h8,?_,λp Q=>?_,λp Q=>?_⟩
 ·have:(l.modify i f).map AS.k=l.map AS.k:=by
   apply bL
   grind
  rw[this];exact h.ord
 ·obtain⟨a,d,rfl|rfl⟩:=L p Q
  ·exact h.kw _ d
  ·rw[(I a d).1];exact h.kw _ d
 ·obtain⟨a,d,rfl|rfl⟩:=L p Q
  ·exact h.lo _ d
  ·exact(I a d).2
def KN{a G V c}(M:Ij h i [c] a l G V){b}(d:l[i]?=lj b)(p:b.en=sd)(J:a.down=sd)(E:b.ver=0):G=a/\V=Nh l i:=by
 cases M with
 |cons D M=>
  cases M;have ⟨e,Q,D⟩:=D
  grind
def QQ{a G V}{c:gT}(f:NG h i [c] sd a l G V){b}(g:l[i]?=lj b)(p:b.en=sd)(J:a.down=sd)(E:b.ver=0):G=a/\V=Nh l i:=by
 have ⟨j,B,M,e⟩:=f;cases M with
 |cons D M=>
  cases M;have ⟨k,Q,D⟩:=D;rw[g]at Q;obtain rfl:=aB Q;rw[aM (by rw[p,J];simp),aL E]at D;have ⟨_,_,e⟩:=e
  grind
def LL{N}(D:∀(i:Nat)p,se[i]?=lj p->p.b≠N)(h:Ho (Lg G N (qh jh 0 0,gd sd)) A f (se++[Ld k N]) j):Ho G A f se j∨j=N:=by
 rcases h with h|h|h
 ·exact r7 (r7 h)
 ·exact(VM h).imp (λh=>kr (r7 h)) id
 ·obtain⟨i,p,Q,a⟩:=h;rcases Ng Q with⟨_,Q⟩|⟨_,rfl⟩
  ·rw[Iw _ _ (D i p Q)]at a;exact r7 (kr (kr ⟨i,p,Q,a⟩))
  ·rw[show(Ld k N).b=N from iI,Ji]at a;cases a
def Sx:gT:=[0,0,0,4,0,0,0,1]
def NZ(ao:It h z)(a6:Io G h z y c u A o f m se r)(s:u.1[b]?=lj (oh U p))(T:U[0]?=lj (iB A.1))(W:¬Ho G A f se b)(D:iK r=iK se)(J:o.down=sd)(hk:(o.last=0/\k=1)∨(o.last=1/\k=2))(h8:iK se<8)(aq:∀d∈se,d.k≠k)(X:FT (se.map SI.abs++[⟨k,0,sd,[]⟩]))(ar:∀a∈se.map SI.abs,iK a.lo<=8000000000):Bg y7 km Ec (Mz Post) 8 #[iB b] u λC O=>C=iE k/\∃g a7 au e,Io g h z y (λl=>c l∨l=iL u.1) O A { o with last:=k } a7 au e (r++[[]])/\J3 u O (Ho G A f se) (Ho g A a7 e)/\e.map SI.abs=se.map SI.abs++[⟨k,1,sd,[]⟩]/\(e.map λd=>(d.k,d.b))=(se.map λd=>(d.k,d.b))++[(k,iL u.1)]:=by
 have b7:ye y7 3 (iE k)=lj (eg5 gh k):=(X.kw ⟨k,0,sd,[]⟩ Ad).1;refine Bl func8 Ac iI (R:=λv=>v.getD 2 qp) (λ_ _=>zx Ac _ _ _) (λ_ _=>vk3 Ac _ _) ?_;simp only[ntmps8,na,Nat.reduceAdd,Nat.reduceSub];refine Wqw ?_;refine Keu ?_;refine Wqw ?_;refine V2g ?_;refine A2 (Abx (k:=k) a6 s T D J hk h8 aq) iI Ac iI Af ?_;rintro C Z⟨rfl,t,H,x⟩;refine Mtk ?_;refine Ro8 ?_;have ae:Z.1[b]?=lj (oh U p):=H.get s (by
  rintro(q|q)
  ·exact W (r7 (r7 q))
  ·exact W (r7 (kr (kr (kr (kr (kr (kr q)))))))
  )
 have a8:(se++[Ld k u.1.size])[iK se]?=lj (Ld k u.1.size):=Ad;have av:(r++[[]])[iK se]?=lj ([]:gT):=by rw[←D];simp
 have R:(se++[Ld k u.1.size]).map SI.abs=se.map SI.abs++[⟨k,0,sd,[]⟩]:=by simp[Ld,SI.abs]
 refine Wqw ?_;refine Wad ?_;refine YK (oh #[uu qg 0,uu qg 0,uu qg 0,uu qg 4,uu qg 0,uu qg 0,uu qg 0,uu qg 1] 5) (λaw=>qh (lj (iC aw)) 8 8) iI Ac (B7 Ab) (λbj=>r7 (by first|rfl|(go_simp;done)|(go_simp;rfl))) ?_;intro bk ax ay;walk_nrm;have aa:Jf #[uu qg 0,uu qg 0,uu qg 0,uu qg 4,uu qg 0,uu qg 0,uu qg 0,uu qg 1]:=λC hx bm=>by
  simp at hx;rcases hx with rfl|rfl|rfl|rfl<;>simp
 refine MQ 8 8 ay Ad aa iI Ac iI Ac λu2 az b2=>?_;have L:Ax Z u2 iH:=ax.trans' az λl i Ib=>Aa;walk_nrm;have H2:=t.kf L;have nw:∀l,iL Z.1<=l->¬Ho (Lg G u.1.size (qh jh 0 0,gd sd)) A f (se++[Ld k u.1.size]) l:=λl hj i=>by have:=t.lt i;omega
 have B2:OU y (λl=>c l∨l=iL u.1) u2 (Ho (Lg G u.1.size (qh jh 0 0,gd sd)) A f (se++[Ld k u.1.size])) A.D (lj Z.1.size) 0 8 Sx:=by
  refine⟨λbn q=>?_,Ae,λ_=>⟨_,iI,λl hj=>?_⟩⟩
  ·obtain rfl:=aB q;exact⟨t.C.sz,λF=>by have:=t.C.W.lt F;omega,nw _ (aC _),λq=>by have:=ltOf t.F.1.7;omega,_,_,b2,aa⟩
  ·rw[Ci b2,aX];have b5:l<8:=hj
   match l,b5 with
   |0,_=>rfl
   |1,_=>rfl
   |2,_=>rfl
   |3,_=>rfl
   |4,_=>rfl
   |5,_=>rfl
   |6,_=>rfl
   |7,_=>rfl
 have Y:((se++[Ld k u.1.size]).map SI.abs)[iK se]?=lj ⟨k,0,sd,[]⟩:=by rw[R];simp
 have b6:∀P I,Ij h (iK se) [[0,0,0,1]] { o with last:=k } ((se++[Ld k u.1.size]).map SI.abs) P I->FT I:=λP I M=>by
  obtain⟨_,rfl⟩:=KN M Y iI J iI;rw[R];refine X.mod _ _ λa Q=>⟨iI,?_⟩;rcases bP.1 Q with i|i
  ·have:=ar a i;simp;omega
  ·simp only[eU]at i;subst i
   show 8<=9000000000
   decide
 refine A2 (Acd (Post:=Post) (p0:=Ld k u.1.size) (bs:=Sx) ao H2 (L.get ae id) T a8 b7 J iI av B2 QA ?_ λP I M=>⟨b6 P I M,λq=>by cases q⟩) iI Ac iI T1 ?_
 ·intro done al an w l' j M
  match done,j with
  |[],j=>
   cases M;obtain⟨rfl,_⟩:=fF j;refine⟨Ae,by rw[R];exact X,λa Q _ _=>?_⟩;rw[Y]at Q;obtain rfl:=aB Q;exact r7 ⟨iI,iI⟩
  |[_],j=>simp at j
  |_::_::_,j=>simp at j
 rintro C u3⟨ab,σ3,ad,b8,B,rfl,H3,S,hR⟩;obtain⟨rfl,b9⟩:=QQ hR Y iI J iI;have ba:KT ({ o with last:=k }:ST).down=0:=by rw[show({ o with last:=k }:ST).down=sd from J];rfl
 rw[ba];have af:B.map SI.abs=se.map SI.abs++[⟨k,1,sd,Sx⟩]:=by
  rw[b9,R];unfold Nh;have:=MG (se.map SI.abs) (⟨k,0,sd,[]⟩:AS) λa=>{ a with ver:=1,lo:=a.lo++[0,0,0,4,0,0,0,1] };rw[bV]at this;rw[this]
  rfl
 obtain⟨n,ah,bo,ai⟩:=Zy S.kb a8;have V:n.abs=⟨k,1,sd,Sx⟩:=by
  have:(B.map SI.abs)[iK se]?=lj n.abs:=by rw[aS,ah];rfl
  rw[af]at this;simpa using this.symm
 have bb:n.lo=Sx:=aJ AS.lo V;have bc:(r++[[]]).set (iK se) (partOf (B.map SI.abs) (iK se) [])=r++[[]]:=by
  have:partOf (B.map SI.abs) (iK se) [] = []:=by unfold partOf;split<;>rfl
  rw[this,←D];exact OA _ _ _
 rw[bc]at H3;walk_nrm;refine Keu ?_;have aj:∀(a1:Nat)(d:SI),se[a1]?=lj d->d.b≠iL u.1:=λa1 d hp=>by have:=(a6.F.ses.one a1 d hp).1.lt;omega
 have bd:u3.1[b]?=lj (oh U p):=S.K.get (L.get ae id) λi=>(LL aj i).elim W λq=>by have:=ltOf s;omega
 have ag:ye y7 3 (iE n.k)=lj (eg5 gh n.k):=by rw[ai];exact b7
 refine Wqw ?_;refine Wad ?_;refine A2 (Ajg H3 bd T ah ag) iI Ac iI (by walk_nrm;rw[ai];try rfl) ?_;rintro C ak⟨rfl,E,N,K⟩;refine Mtk ?_;refine Ro8 ?_;refine Mk2 ?_
 iterate 12(refine V2g ?_)
 rw[bb]at K;refine Uu n.6 Sx K iI Ac (B7 Ab) iI Ac λu5 K5=>?_;walk_nrm;have bf:J3 u u5 (Ho G A f se) (Ho ab A ad (B.set (iK se) n.taken)):=by
  refine(((J3.trans ⟨H.mono λl i=>?_,λl i=>(LL aj i).imp id λq=>Aa⟩ (J3.kf L)).trans S.moved).trans N.moved).trans (J3.kf K5);rcases i with i|i
  ·exact r7 (r7 i)
  ·exact r7 (kr (kr (kr (kr (kr (kr i))))))
 have bg:(B.set (iK se) n.taken).map SI.abs=se.map SI.abs++[⟨k,1,sd,[]⟩]:=by
  rw[fR,af,show n.taken.abs=⟨k,1,sd,[]⟩ by
   have e1:n.k=k:=aJ AS.k V;have e2:n.ver=1:=aJ AS.ver V;have e3:n.en=sd:=aJ AS.en V;simp[SI.taken,SI.abs,e1,e2,e3]]
  have:=OA (se.map SI.abs) (⟨k,1,sd,Sx⟩:AS) ⟨k,1,sd,[]⟩;rw[bV]at this;exact this
 have bh:((B.set (iK se) n.taken).map λd=>(d.k,d.b))=(se.map λd=>(d.k,d.b))++[(k,iL u.1)]:=by
  rw[N.kb,S.kb];simp[Ld]
 have H5:=E.kf K5;refine Xol ?_;refine Trb ?_;have bq:decide (k<1)=sd:=by
  rcases hk with⟨_,rfl⟩|⟨_,rfl⟩<;>decide
 refine Xol ?_;refine Keu ?_;refine Ve5 ?_;refine Wqw ?_;refine Wad ?_;refine Ro8 ?_;exact Dt ⟨kr iI,iI,iI,ab,ad,b8,_,H5,bf,bg,bh⟩
end
structure Mb(G l l'):Prop where
 len:iK l'=iK l
 one:∀(j:Nat)(a:AS),l[j]?=lj a->∃b:gT,l'[j]?=lj { a with lo:=a.lo++b }/\iK b<=G
def Mb.refl(G l):Mb G l l:=⟨iI,λj a h=>⟨[],by rw[h,bZ],bF _⟩⟩
def Mb.trans{G V e}(h:Mb G l V)(k:Mb H V e):Mb (G+H) l e:=
 ⟨k.len.trans h.len,λj a d=>by
  have ⟨b,C,J⟩:=h.one j a d;have ⟨c,T,q⟩:=k.one j _ C
  grind⟩
def Mb.mono{G V}(h:Mb G l V)(p:G<=H):Mb H l V:=⟨h.len,λj a d=>let⟨b,C,J⟩:=h.one j a d;⟨b,C,aE J p⟩⟩
def Ox(l i){b:gT}{G}(D:iK b<=G):Mb G l (G9 l i b):=
 ⟨by unfold G9;rw[List.length_modify],λj a d=>by
  unfold G9;rw[fD,d];by_cases e:i=j
  ·grind
  ·exact⟨[],by simp[e],bF _⟩⟩
def XS{B:gR}{G}(K:iK B=iK l)(D:∀(i:Nat)(b:gT),B[i]?=lj b->iK b<=G):Mb G l (Ol l B):=
 ⟨by unfold Ol;rw[List.length_zipWith];omega,λj a d=>by
  obtain⟨b,c⟩:∃b,B[j]?=lj b:=⟨_,aH Aj⟩;refine⟨b,?_,D j b c⟩;unfold Ol
  grind⟩
def Mb.aok{G V}(h:Mb G l V)(d:FT l)(Y:∀a∈l,iK a.lo+G<=9000000000):FT V:=by
 have c:∀p∈V,∃a∈l,∃b,p = { a with lo:=a.lo++b }/\iK b<=G:=λp Q=>by
  obtain⟨j,f⟩:=List.mem_iff_getElem?.1 Q;have F:j<iK l:=by have:=(aF.1 f).1;have:=h.len;omega
  obtain⟨b,C,J⟩:=h.one j l[j] (aH F)
  grind
 have E:V.map AS.k=l.map AS.k:=by
  apply bL;intro j;by_cases F:j<iK l
  ·obtain⟨b,C,_⟩:=h.one j l[j] (aH F)
   grind
  ·have:=h.len
   grind
 refine⟨by rw[h.len];exact d.h8,by rw[E];exact d.ord,λp Q=>?_,λp Q=>?_⟩
 ·obtain⟨a,e,b,rfl,_⟩:=c p Q;exact d.kw a e
 grind
def Aak{c G V}{d:gT}{r}(f:NG c i [d] sd a l G V){b}(g:l[i]?=lj b)(p:b.en=sd)(J:a.down=sd)(E:b.ver=1)(Y:Il c d=lj r):Hf r i a l G V:=by
 have ⟨j,B,M,e⟩:=f;cases M with
 |cons D M=>
  cases M;have ⟨k,Q,D⟩:=D;rw[g]at Q;obtain rfl:=aB Q;have ⟨_,_,e⟩:=e
  grind
def PW{c G V d r}(M:Ij c i [d] a l G V){b}(e:l[i]?=lj b)(p:b.en=sd)(J:a.down=sd)(E:b.ver=1)(Y:Il c d=lj r):Hf r i a l G V:=by
 cases M with
 |cons D M=>
  cases M;have ⟨f,Q,D⟩:=D
  grind
section
variable {num:Int} {r:List (gU×Nd)}
def ED(T:Rr num r)(N:TrN h r)(kind m z p):(Xp kind m z (Gt r p).1 (Gt r p).2 (kids p r)).length<=1100:=by
 unfold Xp;split
 ·rename_i F;have y:=(N.nm _ (DT F)).2.2;have Z:((Gt r p).1.data.data.toList).length=(Gt r p).1.data.size:=iI;have E:(kids p r).length<=32:=aE Z1 T.len;have R:=VT (L:=kids p r) λs c=>by
   obtain⟨q,f,rfl⟩:=LQ c;exact(N.nm q f).1
  rw[Q4];unfold V7;split
  ·simp only[aK,be_length,Z];simp only at y;omega
  ·exact Heq
 ·rw[N5];omega
def Abb(kind m z){p}(Q:p.size<=200)(b):(Zr (BX kind m z p b)).length<=300:=by
 have Z:(p.data.toList).length=p.size:=iI;rw[Q4];unfold BX;split
 ·simp only[aK,be_length,Z];omega
 ·exact Heq
def BO{r G V}(b:Hf r i a l G V)(T:Rr a.num a.ns)(N:TrN h a.ns)(E:1<=r.kind)(Q:r.kind<=6->Wy h r.p):Mb 2000 l V:=by
 unfold Hf at b;split at b
 ·have P:=Q Aa;rcases b with⟨_,_,rfl⟩|⟨_,c,u,p,_,⟨_,_,rfl⟩|⟨_,_,rfl⟩⟩
  ·exact Ox l i (by rw[N5];omega)
  ·exact .refl _ _
  ·refine(Mb.trans (G:=700) (XS ?_ λj e d=>?_) (Ox _ i (Abb _ _ _ P.ps _))).mono Aa
   ·rw[Qu,bV]
   ·exact Qt (λc=>by
     cases c
     ·exact P.ps
     ·exact P.par.1) (TG Aa) d
 ·split at b
  ·obtain⟨_,rfl⟩:=b;exact Ox l i (aE (ED T N _ _ _ _) Aa)
  ·obtain⟨_,rfl⟩:=b;apply Ox l i;rw[Q4];simp only[aK,be_length];omega
end
section
variable {G g:Nat->Z×Z} {Post:PA y z}
structure Hand(G:Nat->uo×uo)(h z y c u)(Ir:Nat)(A)(σ)(fa fc se qs):Prop where
 H:Io G h z y c u A σ fa fc se qs
 os:u.1[Ir]?=lj (oh #[iB A.1] 78)
 of:¬Ho G A fa se Ir
def Ac8:ye y7 3 (iE 1)=lj (eg5 gh 1)/\(eg5 gh 1).wf=km:=⟨Ab,Ae⟩
def Ac9:ye y7 3 (iE 2)=lj (eg5 gh 2)/\(eg5 gh 2).wf=km:=⟨Ab,Ae⟩
def Ah7(U:It h z)(C:Cx z y Ec c u)(G:∀f,f<8->∃w v fz,u.1[f]?=lj (oh w v fz))(F:Hj u D K)(L:y<=D)(I:y<=K)(N:¬c D)(W:¬c K)(J:h (Hx ⟨#[47]⟩)=km):Bg y7 km Ec (Mz Post) 7 #[iB D] u λk O=>∃P A g b i e n,k=js #[iB P,iE 1]/\Hand g h z y (λj=>c j∨j=n) O P A { σ0 with last:=1 } b i e [[]]/\A.D=D/\A.K=K/\iL u.1<=P/\iL u.1<=n/\(∀j,Ho g A b e j->j=K∨iL u.1<=j)/\Ax u O (· = K)/\e.map SI.abs = [⟨1,1,sd,[]⟩]/\(e.map λp=>(p.k,p.b)) = [(1,n)]:=by
 apply Me func7 Ac iI;simp only[ntmps7,na,Nat.reduceAdd,Nat.reduceSub];refine Wqw ?_;refine Wad ?_;refine Ro8 ?_;refine Wqw ?_;refine V2g ?_;refine A2 (Aqm (Post:=Post) C.sz F (aE C.g8 C.sz) G) iI Ac iI Af ?_;rintro k Z⟨d,P,o,tb,q,M,sm,rfl,s,H,x⟩;refine Mtk ?_;refine Ro8 ?_;refine Mk2 ?_
 iterate 6(refine V2g ?_)
 refine Rgq ?_;refine K5o ?_;have r:Io (λ_=>(qh jh 0 0,gd sd)) h z y c Z ⟨o,D,K,tb,q,M,sm⟩ σ0 jh 0 [] []:=x.fuld (C.kx d (C.W.ofK d (λ_ _ a=>a) λ_ a=>a.elim) λ_ a=>a.elim) (Lj G d λ_ a=>a.elim) J C.sz (λj l=>C.W.lt l) L I N W;have T:¬Ho (λ_=>(qh jh 0 0,gd sd)) ⟨o,D,K,tb,q,M,sm⟩ jh [] P:=by
  rintro(a|a|⟨f,p,Q,_⟩)
  ·exact r.F.off s iI (r7 a)
  ·exact r.F.off s iI (kr a)
  ·simp at Q
 have R:FT (([]:List SI).map SI.abs++[⟨1,0,sd,[]⟩]):=by
  refine⟨Ad,Ad,λp Q=>?_,λp Q=>?_⟩
  ·simp at Q;subst Q;exact Ac8
  ·simp at Q;subst Q;exact bF _
 refine Wqw ?_;refine V2g ?_;refine A2 (NZ (Post:=Post) (k:=1) U r s iI T iI iI (r7 ⟨iI,iI⟩) Ad (λp Q=>by simp at Q) R (λa1 S=>by simp at S)) iI Ac iI Af ?_;rintro k u2⟨rfl,g,b,i,e,m,t,E,B⟩;walk_nrm;refine Keu ?_;refine M8j ?_;refine Gd2 ?_;refine Rgq ?_;refine K5o ?_;refine Wqw ?_;refine Ldr ?_;refine Ro8 ?_;have ai:=ltOf s;have V:∀j,Ho g ⟨o,D,K,tb,q,M,sm⟩ b e j->j=K∨iL u.1<=j:=λj l=>by
  rcases t.new j l with a|a
  ·exact x.foot a
  ·exact kr Aa
 refine Dt ⟨kr iI,iI,js #[iB P,iE 1],λX=>by simp[results,results7,go_sem],λX v Y=>?_,P,_,g,b,i,e,iL Z.1,iI,⟨m,t.K.get s T,(λa=>(t.new _ a).elim T λa=>Aa)⟩,iI,iI,H,d.size,V,((d.mono λ_ a=>a.elim).trans' t.K λj l Ib=>(x.foot l).elim id λa=>Aa),by simpa using E,by simpa using B⟩;simp[results,results7,go_sem]at Y
end
def Afa{a:Type}{l:List a}{x}(h:l[i]?=lj x):l.set i x=l:=by
 apply bL
 grind
def KS{a}(F:0<a.size)(C:a.size<=1000){b}{B:gR}(j:Je [] b B q t):Je [] ((E9 a).data.toList++b) (a.data.toList::B) q t:=by
 have K:iK a.data.toList=a.size:=iI;rw[Mi];rw[cB];refine Ze (be_length _ 4) ?_ (by rwa[K]) (by rwa[K]) j;have:=uns_be (a.size:Int) 4;omega
section
variable {G:Nat->Z×Z} {Post:PA y z} {se:List SI} {d:gU} {a:Rq} {L:Nat}
def Ag6(U:It h z)(R:h iG=km)(H:Hand G h z y c u b A o f m se r)(V:se[i]?=lj N)(E:N.ver=1)(p:N.en=sd)(q:r[i]?=lj [])(k:FT (se.map SI.abs))(T:∀v∈se.map SI.abs,iK v.lo+2000<=9000000000)(s:OZ o)(W:0<d.size)(x:d.size<=1000)(Y:Il h d.data.toList=lj a)(D:1<=a.kind)(Q:a.kind<=6->Wy h a.p)(hd:a.kind<=3->a.d.size<=40)(B:OU y c u (Ho G A f se) A.D ob K L (E9 d).data.toList):Bg y7 km Ec (Mz Post) 10 #[iB b,iE N.k,I5 ob K (E9 d).data.toList.length L] u λF O=>∃X w C l e,F=iE (KT w.down)/\Hand X h z y c O b A w C l e r/\Rp u O A G X f C se e/\Hf a i o (se.map SI.abs) w (e.map SI.abs):=by
 have g:(se.map SI.abs)[i]?=lj N.abs:=by rw[aS,V];rfl
 have hC:Je [] (E9 d).data.toList [d.data.toList] [] sd:=by
  have:=KS W x (.done [])
  rwa[bZ]at this
 have S:=H.H.F.1;refine Bq (Acd (Post:=Post) U H.H H.os iI V ((k.kw N.abs (bA g)).1) s.dn p q B hC ?_ λσ1 l1 M=>⟨(BO (PW M g p s.dn E Y) S.2 S.3 D Q).aok k T,λn=>by cases n⟩) ?_
 ·intro done al an w l' j M
  match done,j with
  |[],j=>
   cases M;obtain⟨rfl,_⟩:=fF j;refine⟨by show iK d.data.toList<=1000;exact x,k,λv I _ _=>?_⟩;rw[g]at I;obtain rfl:=aB I;refine kr ⟨E,s,λr' J=>?_⟩;rw[Y]at J;obtain rfl:=aB J;exact SF R H.H.C.g8 S.2 D Q hd
  |[_],j=>simp at j
  |_::_::_,j=>simp at j
 ·rintro F O⟨X,w,C,l,e,rfl,P,t,hR⟩;have n:r.set i (partOf (e.map SI.abs) i [])=r:=by
   have:partOf (e.map SI.abs) i [] = []:=by unfold partOf;split<;>rfl
   rw[this];exact Afa q
  rw[n]at P;exact⟨X,w,C,l,e,iI,⟨P,t.K.get H.os H.of,λZ=>(t.new _ Z).elim H.of λZ=>by have:=ltOf H.os;omega⟩,t,Aak hR g p s.dn E Y⟩
end
section
variable {d:Nat->Z×Z} {B:SA} {g:ST} {I:hU} {se f:List SI} {i:gR} {a:Nat}
def Pf.same{v L}(h:Pf w w.1.size v L)(W:∀i:Nat,w.1[i]?=u.1[i]?)(N:iL w.1=iL u.1):Pf u u.1.size v L:=by
 have ⟨b,I,e,M,Y,z⟩:=h;exact⟨b,I,e,M,N▸Y,λi V j x Z=>(Cg (W b).symm).trans (z i V j x Z)⟩
def Pf.kf{v L}(h:Pf u u.1.size v L)(K:Ax u O iH):Pf O O.1.size v L:=by
 have ⟨b,I,e,M,Y,z⟩:=h;exact⟨b,I,e,M,aA Y K.size,λi V j x Z=>(Cg (K.block b Y id)).trans (z i V j x Z)⟩
def Ajj(H:Hand cu h z y c u b A o fa m se r)(d:0<iK o.ns):Bg y7 km Ec F 18 #[iB b] u λx O=>Y u O iH/\∃v L,x=js #[iE o.num,v]/\L.Perm (o.ns.map Prod.snd)/\Kf L/\Pf O O.1.size v L:=by
 have S:=H.H.F.1;refine Bq (Aoc Ae Ae (X:=λ_=>False) (R:=λx e=>∃v L,x=js #[iE o.num,v]/\L.Perm (o.ns.map Prod.snd)/\Kf L/\Pf e e.1.size v L) λe W N=>(Aae e b A.1 A.tb A.5 o.num o.ns (cellOf (j:=0) ((W b).trans H.os) iI) (cellOf (j:=1) ((W A.1).trans S.V.1) iI) (by rw[N];exact ltOf S.V.1) ⟨(W _).trans S.V.ht.blk,S.V.ht.map.of_block (W _)⟩ (by have:=S.2.len;omega)).mono λf B a=>?_) λx O a=>?_
 ·obtain⟨⟨v,L,rfl,C,J,T⟩,q⟩:=a;refine⟨⟨_,iI,v,L,iI,C,J,Pf.of T ?_⟩,Bo q⟩;have:=C.length_eq
  grind
 ·have ⟨K,e,W,N,v,L,Z,C,J,T⟩:=a;exact⟨K,v,L,Z,C,J,T.same W N⟩
def NB(H:Io cu h z y c u A o fa m se r)(Q:∀q∈o.ns,q.2.path=q.1){L:List Nd}(a:L.Perm (o.ns.map Prod.snd)):(L.map Nd.path).Nodup:=by
 have C:=H.F.1.V.ht.map.nodup;have J:(o.ns.map Prod.snd).map Nd.path=o.ns.map Prod.fst:=by
  rw[cW];exact dF λq f=>Q q f
 grind
def ZP(k:Hand cu h z y c u b A o fa m se r)(D:Hand d h z y c u a B g I C f i)(K:0<iK o.ns)(Q:∀p∈o.ns,p.2.path=p.1)(L:g.num=o.num)(U:g.ns=o.ns):Bg y7 km Ec F 13 #[iB b,iB a] u λq O=>q=gd km/\Ax u O iH:=by
 apply Bl func13 Ac iI (R:=λS=>S.getD 4 qp) (λ_ _=>zx Ac _ _ _) (λ_ _=>vk3 Ac _ _);simp only[ntmps13,na,Nat.reduceAdd,Nat.reduceSub];refine Wqw ?_;refine Keu ?_;refine Wqw ?_;refine V2g ?_;refine A2 (Ajj k K) iI Ac iI Af ?_;rintro q Z⟨l,s,t,rfl,j,H,x⟩;refine Mtk ?_;refine Ro8 ?_;refine Wqw ?_;refine V2g ?_;refine A2 (Ajj (⟨D.H.kf l,l.get D.os id,D.of⟩) (by rwa[U])) iI Ac iI Af ?_;rintro q T⟨J,G,M,rfl,v,R,P⟩;walk_nrm;rw[U]at v;rw[L];obtain rfl:t=M:=JF (j.trans v.symm) H R (NB k.H Q j)
 iterate 5(refine V2g ?_)
 refine Ro8 ?_;have ai:iK t<=1000000:=by
  have:=j.length_eq;have:=k.H.F.1.2.len;simp at *;omega
 refine Wqw ?_;refine Wad ?_;refine A2 (Nl (f:=29) (args:=#[s,G]) Ae (X:=λ_=>False) (R:=λq _=>q=gd km) λe W N=>(IZ e s G t ((x.kf J).same (λn=>(W n).symm) N.symm) (P.same (λn=>(W n).symm) N.symm) ai).mono λV X w=>⟨⟨_,w.1,iI⟩,Bo w.2⟩) iI Ac iI Af ?_;rintro q E⟨Y,e,_,_,rfl⟩;walk_nrm;refine Keu ?_;refine Wqw ?_;refine Ldr ?_;refine Mdt ?_;refine Wad ?_;refine Ro8 ?_;exact Dt ⟨kr iI,iI,iI,(l.trans J).trans Y⟩
end
def Vn(s:Int)(ks:gZ):Prop:=∀p o,Fo s p o∉ks
def BI{q}:∀{T} {g},Vn s g->En s q T g=([],g)
 |[],g,h=>by simp[En]
 |x::T,g,h=>by
  unfold En;rw[aM (h _ _)];exact BI h
def Vn.sub{g B}(h:Vn s g)(a:∀k∈B,k∈g):Vn s B:=λp o E=>h p o (a _ E)
def Vn.add{W o p g}(h:Vn s g)(f:s≠W):Vn s (Rs g (Fo W p o)):=λu I E=>by
 unfold Rs at E;split at E
 ·exact h u I E
 ·rcases bP.1 E with E|E
  ·exact h u I E
  grind
def Vn.look{s' kind p n en g}(h:Vn s g)(f:s≠s'):Vn s (Nn s' kind p n en g):=by
 unfold Nn;split
 ·exact h.add f
 ·exact h
def U0{p a b u}(h:Aen (-1) L a b u p):b=km/\u = -1:=by
 rcases h with⟨h,_⟩|⟨_,t,_,⟨h,_⟩|⟨_,J,T,_⟩⟩
 ·omega
 ·exact absurd h Ae
 ·exact⟨J,by rw[T];decide⟩
structure Aa2(σ τ:ST)(l m:List AS):Prop where
 num:τ.num=σ.num
 ns:τ.ns=σ.ns
 ks:τ.ks=σ.ks
 no2:Vn 2 σ.ks
 dn:σ.down=sd/\τ.down=sd
 left:σ.left = -1/\τ.left = -1
 ses:∃lo,l = [⟨1,1,sd,lo⟩]/\∃v,m = [⟨1,1,sd,lo⟩,⟨2,v,km,[]⟩]
def Aag{b G n m V q r}(h:Aa2 a b l m)(C:Hf r 0 a l G V)(J:Hf r 0 b m n q):Aa2 G n V q:=by
 obtain⟨I,U,X,c,⟨Z,T⟩,⟨S,L⟩,i,rfl,v,rfl⟩:=h;unfold Hf at C J;rw[I,U,X]at J;split at C
 ·rename_i E;rw[aL E]at J;unfold chR at C J;rw[I,U,X,L]at J;rw[S]at C;rcases C with⟨e,rfl,rfl⟩|⟨M,d,u,p,Y,C⟩
  ·rcases J with⟨_,rfl,rfl⟩|⟨M,_⟩
   ·exact⟨I,U,X,c,⟨Z,T⟩,⟨S,L⟩,_,iI,v,iI⟩
   ·exact absurd M e
  ·rcases J with⟨e,_⟩|⟨_,g,j,N,s,J⟩
   ·exact absurd M e
   ·obtain⟨rfl,rfl⟩:=U0 Y;obtain⟨rfl,rfl⟩:=U0 s;rcases C with⟨D,_⟩|⟨_,rfl,rfl⟩
    ·cases D
    ·rcases J with⟨D,_⟩|⟨_,rfl,rfl⟩
     ·cases D
     ·have O:Vn 2 (En 1 r.p (TT r.kind) a.ks).2:=c.sub λk E=>(Rl).subset E;have f:Ct (a.num+1) r.p (TT r.kind) [1,2] a.ks=([evs (a.num+1) (En 1 r.p (TT r.kind) a.ks).1,[]],(En 1 r.p (TT r.kind) a.ks).2):=by
       show(_::(Ct _ _ _ [2] _).1,(Ct _ _ _ [2] _).2)=_;simp only[Ct,BI O]
       rfl
      simp only[bC,cM,(λo=>rfl),f];exact⟨iI,iI,iI,O,⟨Z,T⟩,⟨iI,iI⟩,_,iI,v,by simp[Ol,G9]⟩
 ·rename_i E;rw[aM E]at J;split at C
  ·rename_i H;rw[aL H]at J;obtain⟨rfl,rfl⟩:=C;obtain⟨rfl,rfl⟩:=J;exact⟨iI,iI,iI,Vn.look (s':=1) c Ae,⟨Z,T⟩,⟨S,L⟩,_,iI,v,iI⟩
  ·rename_i H;rw[aM H]at J;obtain⟨rfl,rfl⟩:=C;obtain⟨rfl,rfl⟩:=J;exact⟨I,U,X,c,⟨Z,T⟩,⟨S,L⟩,_,iI,v,iI⟩
end Go.Proofs.YtcbilgmfdgpomaaGreatDoor
set_option maxRecDepth 10000
namespace Go.Proofs.YtcbilgmfdgpomaaGreatDoor
variable {A:SA}{B l:List AS}{L:List Fl}{N:SI}{Q:Exit->Act->gk->Prop}{a o:ST}
open Go Go.RowKit Go.Maps
structure Vm(n:Nat)(σ:ST):Prop where
 num0:0<=σ.num
 num:σ.num<=n
 path:∀q∈σ.ns,q.2.path=q.1
 root:∃x,((⟨#[47]⟩:gU),x)∈σ.ns
 dn:σ.down=sd
 left:σ.left = -1
 L:iK σ.L<=n
 d:∀f∈σ.L,f.d.size<=n * 400
def Vm.ok(h:Vm n a)(z:n<=1000000):OZ a:=by
 have C:=h.num;have J:=h.L;exact⟨h.dn,Aa,λf I=>by have:=h.d f I;omega,Aa⟩
def Vm.mono(h:Vm n a):Vm (n+1) a:=by
 have C:=h.num;have J:=h.L;exact⟨h.num0,Aa,h.path,h.root,h.dn,h.left,Aa,λf I=>by have:=h.d f I;omega⟩
def Vm.pos(h:Vm n a):0<iK a.ns:=by
 have ⟨x,Z⟩:=h.root;exact List.length_pos_of_mem Z
def An5(k):Vm 0 { σ0 with last:=k }:=by
 refine⟨by show(0:Int)<=0;decide,by show(0:Int)<=0;decide,λq a=>?_,⟨Jv,by show _∈[_];simp⟩,iI,iI,by show 0<=0;decide,λf I=>?_⟩
 ·have t:q∈[((⟨#[47]⟩:gU),Jv)]:=a
  grind
 ·have:=I;cases this
def WL{t K a}(h:PK L K a t)(c:iK L<=n)(y:∀f∈L,f.d.size<=n * 400)(N:a.size<=400):iK t<=n+1/\∀f∈t,f.d.size<=(n+1) * 400:=by
 rcases h with⟨_,rfl⟩|⟨i,f,I,_,rfl⟩
 ·refine⟨Ah,λf I=>?_⟩;rcases bP.1 I with h|h
  ·have:=y f h;omega
  ·simp only[eU]at h;subst h;simp only[bT];have:(iG:gU).size=0:=iI;omega
 grind
def SX{t K}(h:VP L K t)(c:iK L<=n)(y:∀f∈L,f.d.size<=n * 400):iK t<=n/\∀f∈t,f.d.size<=n * 400:=by
 rcases h with⟨_,rfl⟩|⟨i,f,I,_,rfl⟩
 ·exact⟨c,y⟩
 grind
def YZ{p a b u}(h:Aen (-1) L a b u p)(c:iK L<=n)(y:∀f∈L,f.d.size<=n * 400)(N:a.size<=400):iK p<=n+1/\∀f∈p,f.d.size<=(n+1) * 400:=by
 rcases h with⟨h,_⟩|⟨_,t,d,⟨h,_⟩|⟨_,_,_,s⟩⟩
 ·omega
 ·exact absurd h Ae
 ·have ⟨C,J⟩:=WL d c y N;exact SX s C J
def YY(kind a){p d n}(Q:p.size<=200)(y:d.size<=40)(z:n.size<=10):(AK kind a p d n).size<=400:=by
 show(Orch.be _ 4++Oa kind a p d n).length<=400;rw[aK,be_length,AJ];omega
def BP{b r G V}(h:Hf r i a l G V)(I:Vm n a)(E:1<=r.kind)(Q:r.kind<=6->Wy b r.p)(y:r.kind<=3->r.d.size<=40):Vm (n+1) G:=by
 unfold Hf at h;split at h
 ·rename_i T;unfold chR at h;rw[I.left]at h;rcases h with⟨_,rfl,_⟩|⟨M,j,u,p,Y,h⟩
  ·exact I.mono
  ·obtain⟨rfl,rfl⟩:=U0 Y;rcases h with⟨D,_⟩|⟨_,rfl,_⟩
   ·cases D
   ·obtain⟨c,d⟩:=YZ Y I.L I.d (YY _ _ (Q Aa).ps (y T) Ae);have k:=I.num0;have m:=I.num;refine⟨Aj,Aj,?_,?_,I.dn,iI,c,d⟩
    ·intro q f
     show q.2.path=q.1;have t:q∈P0 r.kind a.ns r.p r.d iG (a.num+1):=f;unfold P0 at t;split at t
     ·rcases bP.1 t with h|h
      ·exact I.path q h
      grind
     ·split at t
      ·exact I.path q (List.mem_filter.1 t).1
      ·obtain⟨U,F,rfl⟩:=aZ.1 t;split
       ·rename_i e
        show U.2.path=r.p;rw[I.path U F,e]
       ·exact I.path U F
    ·obtain⟨x,Z⟩:=I.root
     show ∃x,((⟨#[47]⟩:gU),x)∈P0 r.kind a.ns r.p r.d iG (a.num+1);unfold P0;split
     ·exact⟨x,fC _ Z⟩
     ·split
      ·rename_i _ g;refine⟨x,List.mem_filter.2 ⟨Z,?_⟩⟩;have:(⟨#[47]⟩:gU)≠r.p:=λe=>by
        unfold Hi at M;rw[g,aM Ae,aL iI,aL e.symm]at M;cases M
       simpa using this
      ·by_cases e:(⟨#[47]⟩:gU)=r.p
       ·exact⟨_,aZ.2 ⟨_,Z,by rw[aL e,←e]⟩⟩
       ·exact⟨x,aZ.2 ⟨_,Z,aM e⟩⟩
 ·split at h
  ·obtain⟨rfl,_⟩:=h;have J:=I.mono;exact⟨J.num0,J.num,J.path,J.root,J.dn,J.left,J.L,J.d⟩
  ·obtain⟨rfl,_⟩:=h;exact I.mono
open Go.Conc Go.Pair
section
variable {G:Nat->Z×Z} {se:List SI}
def MH:Bg y7 km Ec F 6 #[] u λx O=>x=js #[pdw (lj ⟨iL u.1+1,0,jh⟩),pdw (lj ⟨iL u.1+2,0,jh⟩)]/\Y u O iH/\Hj O (iL u.1+1) u.1.size/\iL u.1+3<=iL O.1:=by
 refine Bq (Nl Ae (X:=λ_=>False) (R:=λx w=>x=js #[pdw (lj ⟨iL u.1+1,0,jh⟩),pdw (lj ⟨iL u.1+2,0,jh⟩)]/\Hj w (iL u.1+1) u.1.size/\iL u.1+3<=iL w.1) λw W N=>(MI w).mono λe B h=>?_) λx O h=>?_
 ·obtain⟨rfl,rfl⟩:=h;refine⟨⟨_,iI,by rw[N],?_,?_⟩,(((Ba _ _ _ _).trans (Ba _ _ _ _)).trans (Ba _ _ _ _))⟩
  ·rw[←N];have l:(w.alloc (oh #[qh jh 0 0,iE (-1)] 58)).1.size=iL w.1+1:=Ad;have J:=iw (w.alloc (oh #[qh jh 0 0,iE (-1)] 58)) (oh #[iB w.1.size] 60);rw[l]at J;exact⟨(Ba _ _ _ λ_=>False).get J id,((Ba _ _ _ λ_=>False).trans (Ba _ _ _ λ_=>False)).get (iw w (oh #[qh jh 0 0,iE (-1)] 58)) id⟩
  ·rw[←N];simp
 ·have ⟨K,w,W,N,Z,hF,T⟩:=h;exact⟨Z,K,⟨(W _).symm.trans hF.d,(W _).symm.trans hF.k⟩,Aa⟩
def OU.new(t:Io G h z y c u A o f m se r)(K:Y u O iH){fz}{s:gU}{a}(D:O.1[iL u.1]?=lj (oh cs 5 fz))(V:Jf cs)(M:s.size<=a)(b:Bytes O u.1.size 0 s.data.toList):OU y c O (Ho G A f se) A.D (lj u.1.size) 0 a s.data.toList:=
 ⟨λX q=>by
  obtain rfl:=aB q;exact⟨t.C.sz,λF=>by have:=t.C.W.lt F;omega,λF=>by have:=t.lt F;omega,λq=>by have:=ltOf t.F.1.7;omega,cs,fz,D,V⟩,M,λ_=>⟨_,iI,b⟩⟩
end
end Go.Proofs.YtcbilgmfdgpomaaGreatDoor

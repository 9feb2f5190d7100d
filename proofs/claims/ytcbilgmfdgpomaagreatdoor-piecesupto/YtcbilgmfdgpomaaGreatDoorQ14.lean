import Derived.Test.YtcbilgmfdgpomaaGreatDoorQ13
set_option linter.all false
noncomputable section
open List renaming length → iR
open Array renaming size → iS
set_option maxHeartbeats 2000000
set_option maxRecDepth 8000
open Option renaming some → ni,none → su
open Go.Proofs.Tryz renaming prog → qz,prog → E
open Go renaming Value → w8,World → qg,heap_alloc_new → sx,Goroutine → o5,FuncId → pz,undef → uw,Oper → km,yielded → gu,keyOf → zv,TypeId → mi,results_tmp → we,Value → Z
open Bool renaming false → o9,true → tu
open Go.Value renaming pointer → w9,slice → um,bool → vp,int → pq,string → x7,tuple → my,agg → h9
open Go.Region renaming wanted → yg
open Go.Lit renaming int → pkj
open Go.Conc renaming events_results_tmp → xrg,events_results_none → kmq
open Go.MapKept renaming Stamped → ny
open Go.Obj renaming cells → jf
open Go.IntKind renaming i64 → yi,u8 → zi
open Go.Ending renaming returned → xr
open Or renaming inl → p8,inr → n9
open Go.Proofs.YtcbilgmfdgpomaaGreatDoor renaming cellOf → S,Ax → Y
open Go.Proofs.Tryz Orch
variable {C D H I K M T i j m n sm xb y yb:Nat}{F:iA}{N:o5->qg->Prop}{O P u v w:qg}{R:iH}{U cs:iB}{W q:hQ}{X c:hY}{b t:Bool}{body:hU}{bv x:Z}{cu h:Nat->Z×Z}{f fa:iE}{g:Array km}{k:Int}{o:km}{ob:iF}{p:Prop}{r:gY}{z:gZ}
def Oyh(h:p:=by
 rwa[aE Ae,aE Ae]):p:=h
def G1h(h:p:=by
 refine Aw ?_;refine Ay ?_;refine Ar ?_;walk_nrm;refine Au ?_;simp only[A0,As];exact Dm ⟨.inr iP,iP,o,G,a,h,b,by rw[s];rfl,ad,ae,hR⟩):p:=h
def Vjk{q:Prop}(k:q)(h:Hd q->p:=by
 intro kz;refine Bh Tryz.func10 Ac iP (λ_ _=>results_tmp Ac _ _ _) (λ_ _=>events_results_tmp Ac _ _) ?_;simp only[Tryz.ntmps10,na,Nat.reduceAdd,Nat.reduceSub];exact kz.1):p:=h ⟨k⟩
def Ia9{q:Prop}(k:q)(h:Hd q->p:=by
 intro kz;refine Aw ?_;refine Ay ?_;refine Dl (#[Value.pointer (some ⟨D,0,none⟩)]) 89 ?_;walk_nrm;have H:=Ba u #[Value.pointer (some ⟨D,0,none⟩)] 89 iO;have G:(u.alloc (.cells #[.pointer (some ⟨D,0,none⟩)] 89)).1[u.1.size]?=some (.cells #[.pointer (some ⟨D,0,none⟩)] 89):=heap_alloc_new _ _;generalize u.alloc (.cells #[.pointer (some ⟨D,0,none⟩)] 89)=Z at H G⊢;revert Z H G;exact kz.1):p:=h ⟨k⟩
def Azx{q:Prop}(k:q)(h:Hd q->p:=by
 intro kz;refine Dl (#[Value.pointer none]) 89 ?_;walk_nrm;have J:=Ba Z #[Value.pointer none] 89 iO;have b2:(Z.alloc (.cells #[.pointer none] 89)).1[Z.1.size]?=some (.cells #[.pointer none] 89):=heap_alloc_new _ _;generalize Z.alloc (.cells #[.pointer none] 89)=A at J b2⊢;refine Wr Z.1.size D b2 iP Ac (B7 Ab) iP Ac Ac ?_;revert A J b2;exact kz.1):p:=h ⟨k⟩
def K4y(h:p:=by
 have b:=c.size;exact⟨_,_,Y L,⟨by rw[b],by rw[←b];exact heap_alloc_new _ _⟩,Ax.of_below (Be _ _) (aB _)⟩):p:=h
def Heq(h:p:=by
 split
 ·simp only[aM,Orch.be_length];omega
 ·simp only[aM,Orch.be_length];omega):p:=h
namespace Go.Proofs.YtcbilgmfdgpomaaGreatDoor
variable {A:SA}{B l:List AS}{L:List Fl}{Q:Exit->Act->qg->Prop}{a d:ST}{e:SI}{s:List SI}
open Go Go.Conc Go.Pair Go.RowKit Go.Maps
def YB(w z b)(M:w.cell? (iK z 5)=ni (vp b)):Calls E 39 #[iI z] w λe B=>e=xr (vp b)/\B=w:=by
 exact Wsr
section
variable {J:hZ}
def Rp(W:VW J c u)(z)(G:iB)(b)(q:u.1[z]?=ni (jf G 95))(M:G[5]?=ni (vp b))(a:¬c z):Bg E tu J N 39 #[iI z] u λx O=>Y u O iO/\VW J c O/\x=vp b:=
 Bp (Gl Ae W (R:=λx _=>x=vp b) (λ_ _ h=>h) λL s=>(YB L z b (S (j:=5) ((s.same a).trans q) M)).mono λf B h=>⟨⟨_,h.1,iP⟩,by rw[h.2];exact Y.refl _ _⟩) λx Z h=>⟨h.1,h.2.1,Ai⟩
set_option maxRecDepth 8000 in
set_option maxHeartbeats 1000000 in
theorem Alx(I:Im z F)(C:Cx F y J c u)(t:TlU y J u){A:SA}{a:ST}{b:Option Addr}{L:Nat}{se:List SI}(g:Full h z J c y u A a b L se)(W:Aa8 se)(i:Nat)(e:SI)(V:se[i]? = some e)(body:List UInt8)(aa:body.length<=1000)(T:Value)(ab:BsB c u T body)(ad:e.en=false->a.down=false->(e.ver=0/\body = [0,0,0,1])∨(e.ver=1/\PN a/\∀a1,Hc z body=some a1->DR z F y A.tb A.mb a.num a.ns a1))(ob M:Nat)(s:u.heap[ob]? = some (.cells #[.pointer (some ⟨e.b,0,none⟩)] 79))(ae:¬c ob)(o:u.heap[M]? = some (.cells #[.pointer (some ⟨A.svb,0,none⟩)] 68))(R:¬c M) :
  Bg Tryz.prog true J N 47 #[T,.pointer (some ⟨ob,0,none⟩),.pointer (some ⟨M,0,none⟩)] u fun x O=>x=.tuple #[]/\VW J c O/\∃G f r w,Full h z J c y O A G f r w/\E7 u O A b f se w/\DT z body i a (se.map SI.abs) G (w.map SI.abs):=by
 obtain⟨q,_,_⟩:=g.ses.one i e V
 have X:=q.j 4 Ae Ae
 have U:∀k,¬J (.cell ⟨ob,k,none⟩):=fun k d=>ae (C.W.ji _ d)
 have v:∀k,¬J (.cell ⟨M,k,none⟩):=fun k d=>R (C.W.ji _ d)
 have l:(se.map SI.abs)[i]? = some e.abs:=by rw [List.getElem?_map,V];rfl
 have m:=q.cell.2.2.1
 refine Bh Tryz.func47 Ac rfl (R:=fun _=>.tuple #[]) (fun _ _=>results_none Ac _ _ _) (fun _ _=>events_results_none Ac _ _) ?_
 simp only [Tryz.ntmps47,na,Nat.reduceAdd,Nat.reduceSub]
 refine Rxn ?_
 refine Bq (cellOf (j:=0) s rfl) (U 0) ?_;walk_nrm
 refine Wad ?_
 cases p:e.en with
 | true=>
  rw [p] at m
  refine Bq m X ?_;walk_nrm
  refine Wad ?_
  iterate 3(refine Fi4 ?_)
  refine Ths ?_
  refine Wv1 ?_
  refine Br ⟨.inl rfl,rfl,trivial,C.W,a,b,L,se,g,E7.kf (Ax.refl _ _),e.abs,l,?_⟩
  rw [if_pos (.inl p)]
  exact⟨rfl,rfl⟩
 | false=>
  rw [p] at m
  refine Bq m X ?_;walk_nrm
  refine Wad ?_
  refine Bq (cellOf (j:=0) o rfl) (v 0) ?_;walk_nrm
  refine A3 (Rp C.W A.svb _ a.down g.srv.V.hv rfl g.srv.V.nv) rfl Ac rfl Af ?_
  rintro x Z ⟨H,P,rfl⟩
  walk_nrm
  have S:=g.kf H
  have n:=C.kx H P fun _ d=>d.elim
  cases j:a.down with
  | true=>
   refine Wad ?_
   refine Zln ?_
   refine Br ⟨.inl rfl,rfl,trivial,P,a,b,L,se,S,E7.kf H,e.abs,l,?_⟩
   rw [if_pos (.inr j)]
   exact⟨rfl,rfl⟩
  | false=>
   refine Wad ?_
   refine Od4 ?_
   refine Ay ?_
   refine Bq (cellOf (j:=0) (H.get o id) rfl) (v 0) ?_;walk_nrm
   refine Bq (cellOf (j:=0) (H.get s id) rfl) (U 0) ?_;walk_nrm
   refine V2g ?_
   have a6:¬(e.abs.en=true∨a.down=true):=by
    have:e.abs.en=false:=p
    rw [this,j]
    simp
   have a7:=ab.kx H fun _ d=>d.elim
   rcases ad p j with⟨E,rfl⟩|⟨E,af,D⟩
   ·refine A3 (Amj I n S W i e V E T a7) rfl Ac rfl Af ?_
    rintro x B ⟨rfl,K,w,Y,Q,a8⟩
    walk_nrm
    refine Au ⟨.inl rfl,rfl,trivial,K,a,b,L,w,Y,(E7.kf H).trans Q,e.abs,l,?_⟩
    rw [if_neg a6,if_pos (show e.abs.ver=0 from E)]
    exact⟨rfl,a8⟩
   ·refine A3 (Apf I n (t.kx H C.g8 C.sz fun _ d=>d.elim) S W af i e V E body aa T a7 D) rfl Ac rfl Af ?_
    rintro x B ⟨rfl,K,G,f,r,w,Y,Q,a8⟩
    walk_nrm
    refine Au ⟨.inl rfl,rfl,trivial,K,G,f,r,w,Y,(E7.kf H).trans Q,e.abs,l,?_⟩
    rwa [if_neg a6,if_neg (show ¬e.abs.ver=0 by show ¬e.ver=0;rw [E];decide)]
end
structure Y4(valid:gZ)(p):Prop where
 pa:Hr p=tu
 ps:p.size<=200
 pv:valid p=tu
 sl:Eb p=tu
 nm:(Hw p).size<=24/\valid (Hw p)=tu
 par:(Ec p).size<=200/\valid (Ec p)=tu
section
variable {tb t:Nat} {num:Int} {r:List (hU×Nd)} {a:Rq}
def BA(l:z iN=tu)(o:8<=y)(f:Pm num r)(E:1<=a.kind)(Q:a.kind<=6->Y4 z a.p)(g:a.kind<=3->a.d.size<=40):DR z F y tb t num r a:=by
 refine⟨λT c V G=>?_,λT M=>?_,λq i c V G=>?_⟩
 ·have P:=Q Aa;have s:=g T;obtain⟨m,L⟩:=G.ml;have C:1<iS c.1:=by have:=G.size;omega
  have B:=P.ps;have d:a.kind=1∨a.kind=2∨a.kind=3:=Aa;rcases d with h|h|h
  ·have e:E8 a.kind r a.p a.d a.ver=CJ r a.p:=by unfold E8;rw[aJ h,aJ P.pa,aJ s]
   rw[e,h];exact WX V m L C a.p a.d iN a.ver Aa P.pa Aa Ae P.sl
  ·have e:E8 a.kind r a.p a.d a.ver=Yc r a.p a.ver:=by
    unfold E8;rw[aL Aa,aJ h];by_cases Y:a.p=⟨#[47]⟩
    ·rw[aJ Y];unfold Yc;rw[aJ Y]
    ·rw[aL Y,aJ P.pa]
   rw[e,h];exact WY V m L C a.p a.d iN a.ver Aa P.pa Aa Ae (by have:=f.len;omega) f.size
  ·have e:E8 a.kind r a.p a.d a.ver=CK r a.p a.ver:=by unfold E8;rw[aL Aa,aL Aa,aJ P.pa,aJ s]
   rw[e,h];exact WZ V m L C a.p a.d iN a.ver Aa P.pa Aa Ae
 ·have P:=Q Aa;have s:=g T;refine⟨?_,P.pa,P.ps,P.pv,P.sl,s,Ae,l,P.nm,P.par⟩;have d:a.kind=1∨a.kind=2∨a.kind=3:=Aa;rcases d with h|h|h
  ·rw[h]at M⊢;unfold E8 at M;rw[aJ iP,aJ P.pa,aJ s]at M;unfold CJ at M;cases b:E9 r a.p with
   |some x=>grind
   |none=>
    rw[b]at M;refine⟨Hb b,?_⟩
    grind
  ·rw[h]at M⊢;unfold E8 at M;rw[aL Ae,aJ iP]at M;split at M
   ·simp at M
   ·rename_i Y;rw[aJ P.pa]at M;unfold Yc at M;rw[aL Y]at M;cases b:E9 r a.p with
    |some x=>exact⟨x,Fe b⟩
    |none=>grind
  ·rw[h]at M⊢;unfold E8 at M;rw[aL Ae,aL Ae,aJ P.pa,aJ s]at M;unfold CK at M;cases b:E9 r a.p with
   |some x=>exact⟨x,Fe b⟩
   |none=>grind
 ·have P:=Q i;obtain⟨m,L⟩:=G.ml;have C:1<iS c.1:=by have:=G.size;omega
  have B:=P.ps;unfold Fy;rw[aJ P.pa];cases b:E9 r a.p with
  |some x=>exact Ti V m L C a.p Aa P.pa x (Fe b)
  |none=>exact Zt V m L C a.p Aa P.pa (Hb b)
end
inductive Gj(valid i):List (hQ)->ST->List AS->ST->List AS->Prop
 |nil (σ) (l):Gj valid i [] σ l σ l
 |cons {b:hQ} {r:gY} {σ σ1 σ2} {l l1 l2}:DT valid b i σ l σ1 l1->Gj valid i r σ1 l1 σ2 l2->Gj valid i (b::r) σ l σ2 l2
def Gj.snoc{a}{W:gY}{c b e T Z}(h:Gj a i W b l e B)(D:DT a c i e B T Z):Gj a i (W++[c]) b l T Z:=by
 induction h with
 |nil b l=>exact .cons D (.nil _ _)
 |cons C _ O=>exact .cons C (O D)
structure GD(l):Prop where
 h8:iR l<=8
 ord:(l.map AS.k).Pairwise (·<=·)
 kw:∀p∈l,zv qz 3 (iL p.k)=ni (pkj yi p.k)/\(pkj yi p.k).wf=tu
 lo:∀p∈l,iR p.lo<=9000000000
def GD.se{se}(h:GD (se.map SI.abs)):Aa8 se:=
 ⟨by simpa using h.h8,by simpa[cY,dW,SI.abs] using h.ord,λp Q=>h.kw p.abs (dC Q),λp Q=>h.lo p.abs (dC Q)⟩
structure Y3(valid Tabs)(gN tb mb i:Nat)(b:hQ)(σ)(l):Prop where
 len:iR b<=1000
 ok:GD l
 req:∀a,l[i]?=ni a->a.en=o9->σ.down=o9->(a.ver=0/\b = [0,0,0,1])∨(a.ver=1/\PN σ/\∀r,Hc valid b=ni r->DR valid Tabs gN tb mb σ.num σ.ns r)
def Le(cu:Nat->Z×Z)(b:Nat)(x:Z×Z):Nat->Z×Z:=λi=>if i=b then x else cu i
def Jo(L:Nat->Z×Z)(b x):Le L b x b=x:=aJ iP
def I5(L:Nat->Z×Z){b}(x)(h:i≠b):Le L b x i=L i:=aL h
structure EIn(cu:Nat->w8×w8)(valid Tabs gN Bs v A)(σ)(fa fc se)(i:Nat)(p0 pv)(q:hQ)(ob:iF)(C9 cap)(bs:hQ)(xb yb:Nat):Prop where
 C:Cx Tabs gN D5 Bs v
 F:Full cu valid D5 Bs gN v A σ fa fc se
 hi:se[i]?=ni p0
 hcu:cu p0.b=(pv,vp o9)
 own:v.ownsRow 0 5 1 pv (iR q) (A5 q)
 ints:IntsIn v pv
 pg:∀g,pv.ownBlock=ni g->gN<=g/\¬Bs g/\¬Ho se g
 brow:∀bb,ob=ni bb->gN<=bb/\¬Bs bb/\¬Ho se bb/\pv.ownBlock≠ni bb/\∃c fz,v.1[bb]?=ni (jf c 5 fz)/\Jl c
 oA:∀bb,ob=ni bb->¬A.has fa bb
 oD:∀bb,ob=ni bb->bb≠A.D
 len:iR bs<=cap
 bby:bs≠[]->∃bb,ob=ni bb/\Bytes v bb C9 bs
 glob:∀i,i<8->∃c e fz,v.1[i]?=ni (jf c e fz)
 hxb:v.1[xb]?=ni (jf #[iI p0.b] 79)
 hyb:v.1[yb]?=ni (jf #[iI A.1] 68)
 nxb:¬Bs xb
 nyb:¬Bs yb
 oxb:¬(A.has fa xb∨Ho se xb)
 oyb:¬(A.has fa yb∨Ho se yb)
section
variable {J J':hZ} {se:List SI} {a:Z} {L:Nat} {R:Nat} {o:gY} {Post:PA y F} {B2:hY} {g:hQ}
def Full.reJ(F:Full h z J c y u A d f m se)(W:∀b k,y<=b->k≠1->k≠2->¬J' (.cell (iK b k))):Full h z J' c y u A d f m se:=
 ⟨F.1,⟨λj p Q=>⟨let S:=(F.ses.one j p Q).1;⟨S.inb,λk=>W p.b k (F.ses.one j p Q).2.1,S.row,S.own,S.ap,S.tl⟩,(F.ses.one j p Q).2⟩,F.ses.apart⟩,F.map⟩
def Jt(w B):Y w (Bb B w) B:=by
 exact Ock
def OK(w:qg)(b):Bytes { w with heap:=w.1.push (jf (rowOf b) 5 (0,0)) } w.1.size 0 b:=λj l=>by
 simp[rowOf,A5,l]
def EIn.eachIn(E:EIn h z F y c v A d f m se i e a q ob K L W j R):∃H,Dw D5 v e.b 1 84 H a q ob K L W/\H.size=6:=by
 have ⟨S,I,o⟩:=E.F.ses.one i e E.hi;have ⟨k,b,N,_⟩:=S.row;have ⟨P,O⟩:=S.tl k b;rw[E.4]at P O;have p:=E.C.g8;exact⟨k,⟨E.glob,b,P,O,E.own,E.ints,Aa,λl G=>⟨by have:=(E.pg l G).1;omega,λg=>(E.pg l G).2.1 (g▸S.inb),λg=>(E.brow l g).2.2.2.1 G⟩,λX D=>⟨by have:=(E.brow X D).1;omega,λg=>(E.brow X D).2.1 (g▸S.inb),let⟨k,n,C,J⟩:=(E.brow X D).2.2.2.2;⟨k,5,n,C,J⟩⟩,E.len,E.bby,⟨λ_ b=>b,λ_ b=>b.elim⟩⟩,N⟩
def EIn.off(E:EIn h z F y c v A d f m se i e a q ob K L W j R):∀b,Lq v.1.size ob a.ownBlock b∨b=iS v.1+2->y<=b/\¬c b/\¬A.has f b/\¬Ho se b/\b≠A.D/\b≠j/\b≠R:=by
 have r:=E.C.sz;have s:=ltOf E.F.1.7;have Z:=ltOf E.14;have U:=ltOf E.15;have n:∀b,iS v.1<=b->y<=b/\¬c b/\¬A.has f b/\¬Ho se b/\b≠A.D/\b≠j/\b≠R:=λb l=>⟨Aa,λg=>by have:=E.C.W.lt g;omega,λg=>by have:=E.F.lt (p8 g);omega,λg=>by have:=E.F.lt (n9 g);omega,Aa,Aa,Aa⟩
 rintro b((rfl|rfl|rfl|rfl|g|g)|rfl)
 ·grind
 ·exact n _ Aa
 ·exact n _ Aa
 ·exact n _ Aa
 ·obtain⟨C,J,T,t,p,u,o,_⟩:=E.brow b g;exact⟨C,J,E.9 b g,T,E.oD b g,λk=>(by subst k;rw[E.14]at o;cases o),λk=>(by subst k;rw[E.15]at o;cases o)⟩
 ·obtain⟨C,J,T⟩:=E.pg b g;obtain⟨p,M⟩:=Ii E.own g;refine⟨C,J,λk=>?_,T,λk=>(by subst k;rw[E.F.1.7]at M;cases M),λk=>(by subst k;rw[E.14]at M;cases M),λk=>(by subst k;rw[E.15]at M;cases M)⟩;obtain⟨w,S,_,Y⟩:=E.F.1.obj E.F.map k;rw[M]at S;exact Y p (aA S).symm
 ·exact n _ Aa
def IE(h:Nat->Z×Z)(z:gZ)(F:iA)(y:Nat)(J:hZ)(c:hY)(u0:qg)(A:SA)(d:ST)(f:iE)(se:List SI)(i:Nat)(o:gY)(ms:gY)(v':qg):Prop:=
 ∃done σ' fa' fc' Fq,o=done++ms/\Gj z i done d (se.map SI.abs) σ' (Fq.map SI.abs)/\Cx F y J c v'/\Full h z J c y v' A σ' fa' fc' Fq/\E7 u0 v' A f fa' se Fq/\TlU y J v'
def Z2{se w:List SI}(h:(w.map λp=>(p.k,p.b))=se.map λp=>(p.k,p.b)){p}(V:se[i]?=ni p):∃u,w[i]?=ni u/\u.b=p.b/\u.k=p.k:=by
 have:=aK (·[i]?) h
 grind
def EIn.start(E:EIn h z F y c v A d f m se i e a q ob K L W j R){b o}(k:Fi v e.b 1 b o u):Cx F y (JAE e.b 1 v.1.size) c (Bb (Lq v.1.size ob a.ownBlock) u)/\Full h z (JAE e.b 1 v.1.size) c y (Bb (Lq v.1.size ob a.ownBlock) u) A d f m se/\Y v (Bb (Lq v.1.size ob a.ownBlock) u) (Lq v.1.size ob a.ownBlock):=by
 have r:Y v _ (Lq v.1.size ob a.ownBlock):=(k.K.mono λ_ k=>k.elim).trans (Jt u _);obtain⟨S,_,_⟩:=E.F.ses.one i e E.hi;have s:=E.C.W.ofK r (λp l D=>(E.off p (p8 D)).2.1 l) λ_ k=>k.elim;have t:VW (JAE e.b 1 v.1.size) c (Bb (Lq v.1.size ob a.ownBlock) u):=by
  refine⟨s.rows,?_,?_,?_⟩
  ·rintro x(k|k|k)
   ·cases k;exact S.inb
   ·cases k;exact S.inb
   ·cases k
  ·rintro G(C|C|C)
   ·cases C
   ·cases C
   ·cases C;refine⟨_,(Jt u _).get k.b2 ?_,iP⟩;rintro(n|n|n|n|n|n)
    ·omega
    ·omega
    ·omega
    ·omega
    ·obtain⟨_,_,_,_,H,M,w,_⟩:=E.brow _ n;have:=ltOf w;omega
    ·have:=Cm E.own n;omega
  ·rintro N(k|k|k)<;>cases k
 have B:=E.C.kx r s λp l=>(E.off p (p8 l)).1;refine⟨⟨t,B.G,B.3,B.sz,B.g8⟩,(E.F.kx r (λp l D=>?_) λD=>(E.off _ (p8 D)).2.2.2.2.1 iP).reJ λO P _ C J=>?_,r⟩
 ·obtain⟨_,_,g,I,_⟩:=E.off p (p8 D);exact l.elim g I
 ·rintro(k|k|k)
  ·cases k;exact C iP
  ·cases k;exact J iP
  ·cases k
def EIn.cb(U:Im z F)(E:EIn h z F y c v A d f m se i e a q ob K L W j R)(D:¬B2 j)(M:¬B2 R)(N:P.1[j]?=ni (jf #[iI e.b] 79))(O:P.1[R]?=ni (jf #[iI A.1] 68))(l:∀p g r n V,o=p++g::r->Gj z i p d (se.map SI.abs) n V->Y3 z F y A.tb A.5 i g n V):Aa2 J 47 #[iI j,iI R] (IE h z F y J B2 P A d f se i o):=by
 rintro g r x⟨p,T,ab,ad,ae,u,H,C,w,G,t⟩af;have B:=l p g r T _ u H;obtain⟨I,X,Y,ah⟩:=Z2 G.kb E.hi;have k:Ax x { x with heap:=x.1.push (jf (rowOf g) 5 (0,0)) } iO:=Ba x (rowOf g) 5 _;have S:=k.get (G.K.get N E.18) id;rw[←Y]at S;apply Bp (Alx U (C.kx k (C.W.alloc (rowOf g) 5) λ_ b=>b.elim) (t.kx k C.g8 C.sz λ_ b=>b.elim) (w.kf k) B.ok.se i I X g B.len _ ⟨iS x.1,0,iR g,iP,aB _,Ad,(λb=>by have:=C.W.lt b;omega),OK x g⟩ (B.3 I.abs (by simp_all)) j R S D (k.get (G.K.get O E.19) id) M);rintro ai aj⟨rfl,Z,a1,a6,a7,s,a8,Q,aa⟩;exact⟨iP,p++[g],a1,a6,a7,s,by rw[u];simp,H.snoc aa,C.kx ((k.mono λ_ b=>b.elim).trans Q.K) Z λ_ b=>w.ge b,a8,G.trans ((E7.kf k).trans Q),(t.kx k C.g8 C.sz λ_ b=>b.elim).kx Q.K C.g8 (aF C.sz k.size) λ_ b=>w.ge b⟩
def Gm.reCu{cu':Nat->Z×Z}{num K en t s}(S:Gm h J c u D num K en t s)(a:cu' D=h D):Gm cu' J c u D num K en t s:=⟨S.inb,S.j,S.row,S.own,S.ap,by rw[a];exact S.tl⟩
def Ue.cutter(a:Ue h J c y u se)(V:se[i]?=ni e)(K:Ax u O X){x b}(C:u.1[e.b]?=ni (jf cs 84))(f:O.1[e.b]?=ni (jf ((cs.setIfInBounds 1 x).setIfInBounds 2 (vp b)) 84))(t:∀j,Ho se j->j≠e.b->¬X j):Ue (Le h e.b (x,vp b)) J c y O se:=by
 obtain⟨q,I,o⟩:=a.one i e V;refine⟨λj p Q=>⟨?_,(a.one j p Q).2⟩,a.apart⟩;obtain⟨S,_,_⟩:=a.one j p Q;have Y:∀g,p.6.ownBlock=ni g->¬X g:=λg G=>t g ⟨j,p,Q,n9 G⟩ λd=>S.ap g G (d▸q.inb);by_cases W:i=j
 ·subst W;rw[V]at Q;obtain rfl:=aA Q;obtain⟨m,M,N,c0,r,n,l⟩:=S.row;rw[C]at M;cases M;refine⟨S.inb,S.j,⟨_,f,by simp[N],?_,?_,?_,?_⟩,Di S.own λg G=>K.block g (Cm S.own G) (Y g G),S.ap,λs U=>?_⟩
  ·exact Oyh
  ·exact Oyh
  ·exact Oyh
  ·exact Oyh
  ·rw[f]at U;cases U;rw[Jo,aE Ae,aQ Aa,aQ Ah];exact⟨iP,iP⟩
 ·have k:p.b≠e.b:=λd=>(a.apart i j e p V Q W).1 d.symm;exact(S.kx K (t _ ⟨j,p,Q,p8 iP⟩ k) Y).reCu (I5 h _ k)
def Full.cutter(F:Full h z J c y u A d f m se)(V:se[i]?=ni e)(K:Y u O X){x b}(C:u.1[e.b]?=ni (jf cs 84))(a:O.1[e.b]?=ni (jf ((cs.setIfInBounds 1 x).setIfInBounds 2 (vp b)) 84))(t:∀j,A.has f j∨Ho se j->j≠e.b->¬X j)(W:¬X A.D):Full (Le h e.b (x,vp b)) z J c y O A d f m se:=by
 have off:∀j,A.has f j->j≠e.b:=λj l g=>F.1.offS F.map F.ses l ⟨i,e,V,p8 g⟩;have s:A.has f A.sm:=n9 (n9 (n9 (n9 (n9 (n9 iP)))));exact⟨F.1.kx K (λj l=>t j (p8 l) (off j l)) W,F.ses.cutter V K C a λj l=>t j (n9 l),F.map.of_block (K.block _ F.map.lt (t _ (p8 s) (off _ s)))⟩
def Full.reB(H:Full h z J c y u A d f m se)(a:∀i,y<=i->(B2 i↔c i)):Full h z J B2 y u A d f m se:=by
 have S:=H.1;have n:∀i,y<=i->¬c i->¬B2 i:=λi l e D=>e ((a i l).1 D);exact⟨⟨⟨S.V.1,n _ S.gv S.V.nv,S.V.ht,n _ S.gt S.V.4,n _ S.gm S.V.nm,S.V.6,S.V.z2⟩,S.2,S.3,S.hw,S.5,S.6,S.7,S.st,S.9,S.l1,n _ S.gw S.nw,n _ S.gs S.12,n _ S.gD S.nD,n _ S.gK S.nK,λg G=>n g (S.gf g G) (S.nf g G),S.gv,S.gt,S.gm,S.gw,S.gs,S.gD,S.gK,S.gf,S.wmb,S.wsm,S.mbs⟩,⟨λi b Q=>⟨let T:=(H.ses.one i b Q).1;⟨(a _ (H.ses.one i b Q).2.1).2 T.inb,T.j,T.row,T.own,λg G=>n g ((H.ses.one i b Q).2.2 g G) (T.ap g G),T.tl⟩,(H.ses.one i b Q).2⟩,H.ses.apart⟩,H.map⟩
def J9{B x}(V:¬B i):(Bb B x).1[i]?=x.1[i]?:=by
 rw[Bu]
 grind
def EIn.startS(G:EIn h z F y c v A d f m se i e a q ob K L W j R){b M}(o:Fi v e.b 1 b M u)(H:Df Post.TA Post.base u):Cx F y (PD Post.JX e.b 1 v.1.size) (λg=>c g∨Post.TA g) (Bb (Lq v.1.size ob a.ownBlock) (Cb Post.TA Post.base u))/\Full h z (PD Post.JX e.b 1 v.1.size) (λg=>c g∨Post.TA g) y (Bb (Lq v.1.size ob a.ownBlock) (Cb Post.TA Post.base u)) A d f m se/\TlU y (PD Post.JX e.b 1 v.1.size) (Bb (Lq v.1.size ob a.ownBlock) (Cb Post.TA Post.base u))/\Ax (Bb (Lq v.1.size ob a.ownBlock) u) (Bb (Lq v.1.size ob a.ownBlock) (Cb Post.TA Post.base u)) Post.TA:=by
 obtain⟨C,I,a1⟩:=G.start o;obtain⟨_,P,_⟩:=G.F.ses.one i e G.hi;have nB:∀g,Post.TA g->¬Lq v.1.size ob a.ownBlock g:=λg l D=>by have:=(G.off g (p8 D)).1;have:=Post.lt g l;omega
 have r:Ax (Bb (Lq v.1.size ob a.ownBlock) u) (Bb (Lq v.1.size ob a.ownBlock) (Cb Post.TA Post.base u)) Post.TA:=⟨iP,iP,iP,by rw[Dd,Dd,Bj];exact aB _,λg _ l=>by rw[Bu,Bu,By l]⟩;have Q:VW (PD Post.JX e.b 1 v.1.size) (λg=>c g∨Post.TA g) (Bb (Lq v.1.size ob a.ownBlock) (Cb Post.TA Post.base u)):=by
  refine⟨λg l=>?_,λS x=>?_,λN Y=>?_,λT E=>?_⟩
  ·by_cases V:Post.TA g
   ·obtain⟨t,k,w,p⟩:=Post.rows g V;exact⟨t,k,w,by rwa[J9 (nB g V),D3 H V]⟩
   ·have D:=l.resolve_right V;obtain⟨t,k,w,p⟩:=C.W.rows g D;exact⟨t,k,w,r.get p V⟩
  ·rcases x with x|x
   ·exact p8 (C.W.2 S x)
   ·obtain⟨O,k,V⟩:=PA.jx x;cases k;exact n9 V
  ·rcases Y with Y|Y
   ·obtain⟨U,p,J⟩:=C.W.3 N Y;refine⟨U,r.get p λV=>?_,J⟩;obtain⟨t,k,w,_,X⟩:=H.blank N V;rw[J9 (nB N V),X]at p;cases p;cases J
   ·obtain⟨O,k,V⟩:=PA.jx Y;cases k
  ·rcases E with E|E
   ·exact C.W.4 T E
   ·obtain⟨O,k,V⟩:=PA.jx E;cases k
 have V:F (Bb (Lq v.1.size ob a.ownBlock) u):=(C.G _ (λ_ _=>rfl) C.sz).tabs;have n:Df Post.TA Post.base (Bb (Lq v.1.size ob a.ownBlock) u):=⟨λg l=>by
  obtain⟨t,k,w,p,J⟩:=H.blank g l;exact⟨t,k,w,p,by rwa[J9 (nB g l)]⟩⟩
 refine⟨(⟨Q,λZ B s=>C.G Z (λg l=>(B g l).trans (r.block g (by have:=C.sz;have:=C.g8;omega) λV=>by have:=Post.ge g V;omega)) s,λg l=>l.elim (C.3 g) (Post.ge g),aF C.sz r.size,C.g8⟩),((I.kx r (λg l V=>by have:=I.ge l;have:=Post.lt g V;omega) λV=>by have:=I.1.gD;have:=Post.lt _ V;omega).reB λg l=>⟨λo=>o.resolve_right λV=>by have:=Post.lt g V;omega,p8⟩).reJ λa6 a7 D p J=>?_,?_,r⟩
 ·rintro((o|o|o)|o)
  ·cases o;exact p iP
  ·cases o;exact J iP
  ·cases o
  ·obtain⟨O,k,V⟩:=PA.jx o;cases k;have:=Post.lt _ V;simp only at this;omega
 ·refine(Post.tlU (cb:=e.b) (co:=1) (N:=iS v.1) n V P).kx (X:=λ_=>False) ⟨iP,iP,iP,by rw[Bj,Dd,Dd,Bj];exact aB _,λg _ _=>?_⟩ C.g8 (by rw[Bj];exact C.sz) λ_ o=>o.elim;by_cases V:Post.TA g
  ·rw[J9 (nB g V),D3 H V,D3 n V]
  ·rw[By V,Bu,Bu,By V]
def Akn(bc:Im z F)(E:EIn h z F y c v A d f m se i e a q ob K L W j R)(hC:E6 q W o g t)(hp:Pl q)(bd:∀a6 b ao σ' l',o=a6++b::ao->Gj z i a6 d (se.map SI.abs) σ' l'->Y3 z F y A.tb A.5 i b σ' l'):Bg qz tu D5 (Jh Post) 46 #[w9 (ni (iK e.b 1)),Jd ob K (iR W) L,.func (.func 47) #[] #[iI j,iI R]] v λaq vF=>aq=vp (!t)/\∃σ' ap bf ab aj,Gj z i o d (se.map SI.abs) σ' (ab.map SI.abs)/\Cx F y D5 c vF/\Full (Le h e.b (aj,vp t)) z D5 c y vF A σ' ap bf ab/\vF.ownsRow 0 5 1 aj (iR g) (A5 g)/\IntsIn vF aj/\(∀r,aj.ownBlock=ni r->¬Ho ab r/\(a.ownBlock=ni r∨iS v.1<=r))/\Ax v vF (λk=>A.has f k∨Ho se k∨a.ownBlock=ni k)/\(∀r,Fx ap=ni r->Fx f=ni r∨iS v.1<=r)/\(∀k,Ho ab k->Ho se k∨iS v.1<=k)/\(ab.map λad=>(ad.k,ad.b))=se.map λad=>(ad.k,ad.b):=by
 obtain⟨be,EI,bi⟩:=E.eachIn;have hB:∀u u',Fi v e.b 1 (Jd ob K (iR W) L) KK u->Fi v e.b 1 (Jd ob K (iR W) L) KK u'->∀k,k=iS v.1∨k=iS v.1+2∨ob=ni k∨a.ownBlock=ni k->(Bb (Lq v.1.size ob a.ownBlock) u).1[k]?=(Bb (Lq v.1.size ob a.ownBlock) u').1[k]?:=λu u' p P k l=>by
  rw[Bu,Bu];rcases l with rfl|rfl|O|O
  ·rw[p.3,P.3]
  ·rw[p.b2,P.b2]
  ·obtain⟨_,_,_,_,N,fz,w,_⟩:=E.brow _ O;rw[p.K.get w id,P.K.get w id]
  ·obtain⟨N,X⟩:=Ii E.own O;rw[p.K.get X id,P.K.get X id]
 have az:∀u,Fi v e.b 1 (Jd ob K (iR W) L) KK u->(Bb (Lq v.1.size ob a.ownBlock) u).1[j]?=ni (jf #[iI e.b] 79)/\(Bb (Lq v.1.size ob a.ownBlock) u).1[R]?=ni (jf #[iI A.1] 68):=λu p=>
  ⟨(E.start p).2.2.get E.14 λY=>(E.off _ (p8 Y)).2.2.2.2.2.1 iP,(E.start p).2.2.get E.15 λY=>(E.off _ (p8 Y)).2.2.2.2.2.2 iP⟩
 have D:∀u,Fi v e.b 1 (Jd ob K (iR W) L) KK u->(Bb (Lq v.1.size ob a.ownBlock) u).1.size=iS v.1+5:=λu p=>by rw[Dd,p.size]
 have T:∀k,y<=k->¬Post.TA k:=λk l V=>by have:=Post.lt k V;omega
 obtain⟨_,bg,_⟩:=E.F.ses.one i e E.hi;refine Bp (Ai9 (A:=Post) (I:=λms x=>∃G,Fi v e.b 1 (Jd ob K (iR W) L) KK G/\Df Post.TA Post.base G/\IE h z F y (PD Post.JX e.b 1 v.1.size) (λk=>c k∨Post.TA k) (Bb (Lq v.1.size ob a.ownBlock) (Cb Post.TA Post.base G)) A d f se i o ms x) EI (T _ bg) (λbh Y=>T _ (E.brow bh Y).1) (λr Q=>T _ (E.pg r Q).1) hC hp ?_ ?_ ?_ ?_ ?_) ?_
 ·rintro ms x al⟨G,w,hH,a6,σ1,Z,ah,a7,ag,ai,C,a1,H,TU⟩;exact⟨G,w,hH,a6,σ1,Z,ah,a7,ag,ai,C.at al,a1.at al,H.at al,TU.kx ((Ax.refl x iO).at al) C.g8 C.sz λ_ p=>p.elim⟩
 ·rintro b ao x⟨G,w,hH,bj⟩bk;obtain⟨_,_,_,S⟩:=E.startS (Post:=Post) w hH;have nx:∀{k} {N} {O},v.1[k]?=ni (jf N O)->N≠#[]->¬Post.TA k:=λ{k N O} l X V=>by
   obtain⟨c',e',bm,_,h2⟩:=hH.blank k V;rw[w.K.get l id]at h2;cases h2;exact X iP
  have b5:=nx E.14 Ad;have b6:=nx E.15 Ad;exact Bp (E.cb bc (λp=>p.elim E.16 b5) (λp=>p.elim E.17 b6) (S.get (az G w).1 b5) (S.get (az G w).2 b6) bd b ao x bj bk) λaq x' p=>⟨p.1,G,w,hH,p.2⟩
 ·intro u w hH;obtain⟨C,a1,TU,_⟩:=E.startS (Post:=Post) w hH;exact⟨u,w,hH,[],d,f,m,se,iP,.nil _ _,C,a1,E7.kf (Ax.refl _ _),TU⟩
 ·rintro u w c6 x⟨G,U,ae,a6,σ1,Z,ah,a7,ag,ai,C,a1,H,_⟩;obtain⟨_,_,_,S⟩:=E.startS (Post:=Post) U ae;obtain⟨ar,au,aa,_⟩:=Z2 H.kb E.hi;refine⟨λk l=>?_,?_,?_⟩
  ·have af:Lq v.1.size ob a.ownBlock k∨k=iS v.1+2:=by
    rcases l with p|p|p|p
    ·exact p8 (p8 p)
    ·exact n9 p
    ·exact p8 (n9 (n9 (n9 (n9 (p8 p)))))
    ·exact p8 (n9 (n9 (n9 (n9 (n9 p)))))
   obtain⟨_,_,bn,I,_⟩:=E.off k af;have Q:=(E.off k af).1;have am:k<(Bb (Lq v.1.size ob a.ownBlock) G).1.size:=?_
   ·rw[hB u G w U k l,←S.block k am (T k Q)];exact H.K.block k (aC am S.size) λp=>p.elim bn I
   rw[D G U];rcases l with p|p|p|p
   ·omega
   ·omega
   ·obtain⟨_,_,_,_,N,fz,w,_⟩:=E.brow _ p;have:=ltOf w;omega
   ·have:=Cm E.own p;omega
  ·obtain⟨bo,_,_⟩:=a1.ses.one i ar au;obtain⟨N,X,c7,_⟩:=bo.row;exact⟨N,aa▸X,Aa⟩
  ·rw[←D G U];exact aF S.size H.K.size
 ·rintro x⟨G,U,ae,a6,σ1,Z,ah,a7,ag,ai,C,a1,H,_⟩k l;have nB:¬Lq v.1.size ob a.ownBlock k:=λY=>T k (E.off k (p8 Y)).1 l;obtain⟨N,O,fz,h1⟩:=Post.rows k l;have h2:(Bb (Lq v.1.size ob a.ownBlock) (Cb Post.TA Post.base G)).1[k]?=Post.base.1[k]?:=by rw[J9 nB,D3 ae l]
  rw[←h2];exact H.K.block k (ltOf (h2.trans h1)) λp=>by
   obtain⟨_,FS,_⟩:=E.startS (Post:=Post) U ae;exact T k (FS.ge p) l
 ·rintro aq vF⟨rfl,ak,⟨G,U,ae,a6,σ1,Z,ah,a7,ag,ai,C8,an,J,_⟩,av,M⟩;obtain rfl:o=a6:=by simpa using ag
  obtain⟨CS,FS,_,S⟩:=E.startS (Post:=Post) U ae;have KB:Ax ak (Bb Post.TA ak) Post.TA:=Jt _ _;have a1:=((an.kx KB (λk l V=>T k (an.ge l) V) λV=>T _ an.1.gD V).reB (B2:=c) λk l=>⟨p8,λp=>p.resolve_right (T k l)⟩);have H:E7 (Bb (Lq v.1.size ob a.ownBlock) G) (Bb Post.TA ak) A f Z se a7:=by
   refine⟨⟨J.K.os,J.K.tape,J.K.output,aF S.size (aF J.K.size KB.size),λk l hx=>?_⟩,λr Q=>(J.own r Q).imp id λp=>aF S.size p,λk l=>(J.sin k l).imp id λp=>aF S.size p,J.kb⟩;by_cases V:Post.TA k
   ·obtain⟨N,O,fz,h1,h2⟩:=av.blank k V;obtain⟨c',e',bm,b7,h4⟩:=ae.blank k V;rw[h1]at b7;cases b7;rw[h2,J9 (λY=>T k (E.off k (p8 Y)).1 V),h4]
   ·rw[J9 V,J.K.block k (aC l S.size) hx,S.block k l V]
  have C:Cx F y D5 c (Bb Post.TA ak):=by
   refine⟨⟨λk l=>?_,λ_ p=>p.elim,λ_ p=>p.elim,λ_ p=>p⟩,λbq hL hs=>C8.G bq (λk l=>(hL k l).trans (KB.block k (by have:=C8.sz;have:=C8.g8;omega) λV=>by have:=Post.ge k V;omega)) hs,E.C.3,aF C8.sz KB.size,C8.g8⟩;by_cases V:Post.TA k
   ·obtain⟨N,O,fz,h1,h2⟩:=av.blank k V;exact⟨_,O,fz,h2⟩
   ·obtain⟨N,O,fz,h1⟩:=C8.W.rows k (p8 l);exact⟨N,O,fz,KB.get h1 V⟩
  clear KB an J C8 CS FS av;generalize Bb Post.TA ak=vA at *;obtain⟨ar,au,aa,c8⟩:=Z2 H.kb E.hi;obtain⟨C0,F0,B⟩:=E.start U;obtain⟨b8,c9,br,b9,a3,n,a5⟩:=M.part;have aw:=D G U;have ax:iS v.1+5<=iS vA.1:=aw▸H.K.size;have ba:∀r,Fx Z=ni r->Fx f=ni r∨iS v.1+5<=r:=λr Q=>(H.own r Q).imp id λp=>aw▸p;have ay:∀k,Ho a7 k->Ho se k∨iS v.1+5<=k:=λk l=>(H.sin k l).imp id λp=>aw▸p;have bu:∀k,A.has Z k->A.has f k∨iS v.1+5<=k:=λk l=>by
   rcases l with p|p|p|p
   ·exact p8 (p8 p)
   ·exact p8 (n9 (p8 p))
   ·exact(ba k p).imp (λp=>n9 (n9 (p8 p))) id
   ·exact p8 (n9 (n9 (n9 p)))
  have cc:e.b<iS v.1:=(E.F.ses.one i e E.hi).1.lt;have bw:∀k,ob=ni k->k<iS v.1:=λk p=>by obtain⟨_,_,_,_,N,fz,w,_⟩:=E.brow _ p;exact ltOf w
  have bb:∀k,a.ownBlock=ni k->k<iS v.1:=λk p=>Cm E.own p;have hX:∀k,A.has Z k∨Ho a7 k->k≠ar.b->¬(k=e.b∨k=iS v.1∨k=iS v.1+2∨ob=ni k∨a.ownBlock=ni k):=λk l bx p=>by
   have af:(A.has f k∨Ho se k)∨iS v.1+5<=k:=by
    rcases l with l|l
    ·exact(bu k l).imp p8 id
    ·exact(ay k l).imp n9 id
   rcases p with p|p|p|p|p
   ·exact bx (p.trans aa.symm)
   ·rcases af with P|P
    ·have:=E.F.lt P;omega
    ·omega
   ·rcases af with P|P
    ·have:=E.F.lt P;omega
    ·omega
   ·rcases af with P|P
    ·exact P.elim (E.off k (p8 (n9 (n9 (n9 (n9 (p8 p))))))).2.2.1 (E.off k (p8 (n9 (n9 (n9 (n9 (p8 p))))))).2.2.2.1
    ·have:=bw k p;omega
   ·rcases af with P|P
    ·exact P.elim (E.off k (p8 (n9 (n9 (n9 (n9 (n9 p))))))).2.2.1 (E.off k (p8 (n9 (n9 (n9 (n9 (n9 p))))))).2.2.2.1
    ·have:=bb k p;omega
  have bz:¬(A.D=e.b∨A.D=iS v.1∨A.D=iS v.1+2∨ob=ni A.D∨a.ownBlock=ni A.D):=by
   have hD:=ltOf E.F.1.7;rintro(p|p|p|p|p)
   ·exact E.F.1.offD E.F.ses ⟨i,e,E.hi,p8 p⟩
   ·omega
   ·omega
   ·exact E.oD _ p iP
   ·exact(E.off _ (p8 (n9 (n9 (n9 (n9 (n9 p))))))).2.2.2.2.1 iP
  have KF:Ax v vF (λk=>A.has f k∨Ho se k∨a.ownBlock=ni k):=by
   refine⟨M.K.os.trans (H.K.os.trans B.os),M.K.tape.trans (H.K.tape.trans B.tape),M.K.output.trans (H.K.output.trans B.output),aF (aF Aa ax) M.K.size,λk l a8=>?_⟩;by_cases s:ob=ni k
   ·exact M.b k s
   ·rw[M.K.block k Aa ?_,H.K.block k Aa ?_,B.block k l ?_]
    ·rintro(p|p|p|p|p|p)
     ·omega
     ·omega
     ·omega
     ·omega
     ·exact s p
     ·exact a8 (n9 (n9 p))
    ·exact λp=>a8 (p.imp id p8)
    ·rintro(p|p|p|p|p)
     ·exact a8 (n9 (p8 ⟨i,e,E.hi,p8 p⟩))
     ·omega
     ·omega
     ·exact s p
     ·exact a8 (n9 (n9 p))
  have WF:VW D5 c vF:=by
   refine⟨λk l=>?_,λ_ p=>p.elim,λ_ p=>p.elim,λ_ p=>p⟩;by_cases X:k=e.b
   ·subst X;exact⟨_,_,_,b9⟩
   ·rw[M.K.block k (C.W.lt l) ?_]
    ·exact C.W.rows k l
    ·have am:=E.C.W.lt l;rintro(p|p|p|p|p)
     ·exact X p
     ·omega
     ·omega
     ·exact(E.brow k p).2.1 l
     ·exact(E.pg k p).2.1 l
  refine⟨iP,σ1,Z,ah,a7,b8,ai,E.C.kx KF WF ?_,aa▸((a1.reJ (J':=D5) λ_ _ _ _ _ p=>p).cutter (x:=b8) (b:=t) au M.K (aa▸br) (aa▸b9) hX bz),a3,n,λr Q=>?_,KF,λr Q=>(ba r Q).imp id λp=>Aa,λk l=>(ay k l).imp id λp=>Aa,H.kb⟩
  ·rintro k(p|p|p)
   ·exact E.F.ge (p8 p)
   ·exact E.F.ge (n9 p)
   ·exact(E.pg k p).1
  ·refine⟨λhs=>?_,(a5 r Q).imp id λp=>Aa⟩;rcases a5 r Q with p|p
   ·rcases ay r hs with P|P
    ·exact(E.pg r p).2.2 P
    ·have:=bb r p;omega
   ·have:=a1.lt (n9 hs);omega
end
def U4(i:Nat)(t:Bool)(σ1:ST)(l1:List AS)(σ':ST)(l':List AS):Prop:=
 ∃a,l1[i]?=ni a/\if t=tu/\a.en=o9 then σ' = { σ1 with ks:=GX a.k σ1.ks }/\l'=Na l1 i (La σ1.num 2) else σ'=σ1/\l'=l1
def FD(valid:gZ)(i:Nat)(Ea:gY)(t:Bool)(σ:ST)(l:List AS)(σ':ST)(l':List AS):Prop:=
 ∃σ1 l1,Gj valid i Ea σ l σ1 l1/\U4 i t σ1 l1 σ' l'
def rd3:Code:=match f40.body with|some (.seq _ (.seq _ (.seq c _)))=>c|_=>.skip
def rd4:Code:=match f40.body with|some (.seq _ (.seq _ (.seq _ c)))=>c|_=>.skip
def LR(svb sb:Nat)(bv:Z)(xb yb:Nat)(whole:Bool)(s:iD):Act:=⟨#[iI svb,iI sb,bv,iI yb,iI xb,s 5,vp whole,s 7,s 8,s 9,s 10,s 11,s 12,s 13,s 14,s 15,s 16,s 17,s 18,s 19,s 20,s 21,s 22,s 23,s 24,s 25,s 26,s 27,s 28,s 29,s 30,s 31,s 32,s 33,s 34,s 35,s 36,s 37],[]⟩
def Amo{z T R a}(h:a=LR z D T C R b (λj=>a.tmps.getD j uw)):∃s,a=LR z D T C R b s:=⟨_,h⟩
section
variable {J:hZ} {se:List SI} {s:iD}
def Amz{svb sb bv xb yb whole a c}(h:a=LR svb sb bv xb yb whole (λj=>a.tmps.getD j uw))(H:∀s,Hj E tu J N 40 c Q (LR svb sb bv xb yb whole s) w):Hj E tu J N 40 c Q a w:=by
 rw[h];exact H _
def Ah3(r:Im z F)(C:Cx F y J c u)(g:Full h z J c y u A d f m se)(V:se[i]?=ni e)(E:iR e.lo<=9000000000)(l:t=tu->d.down=o9)(a7:u.1[xb]?=ni (jf #[iI e.b] 79))(D:¬c xb)(o:u.1[yb]?=ni (jf #[iI A.1] 68))(I:¬c yb):Hj qz tu J N 40 rd3 (λK L b=>K=.normal/\(∃W,L=LR A.1 e.b bv xb yb (!t) W)/\VW J c b/\∃G w,Full h z J c y b A G f m w/\E7 u b A f f se w/\U4 i t d (se.map SI.abs) G (w.map SI.abs)) (LR A.1 e.b bv xb yb (!t) s) u:=by
 obtain⟨q,_,_⟩:=g.ses.one i e V;have X:=q.j 4 Ae Ae;have U:∀k,¬J (.cell (iK xb k)):=λk a=>D (C.W.2 _ a);have v:∀k,¬J (.cell (iK yb k)):=λk a=>I (C.W.2 _ a);have n:(se.map SI.abs)[i]?=ni e.abs:=by rw[aT,V];rfl
 have j:=q.cell.2.2.1;unfold rd3 LR;simp only[f40];refine Rxn ?_;cases t with
 |false=>
  refine Trb ?_
  iterate 5(refine Fi4 ?_)
  refine Wad ?_
  iterate 3(refine Fi4 ?_)
  refine Ths ?_;refine Wv1 ?_;refine Br ⟨iP,Amo iP,C.W,d,se,g,E7.kf (Ax.refl _ _),e.abs,n,?_⟩;rw[aL Ad];exact⟨iP,iP⟩
 |true=>
  refine Trb ?_;refine Bq (S (j:=0) a7 iP) (U 0) ?_;walk_nrm;refine Wad ?_;cases p:e.en with
  |true=>
   rw[p]at j;refine Bq j X ?_;walk_nrm;refine Trb ?_
   iterate 3(refine Fi4 ?_)
   refine Ths ?_;refine Wv1 ?_;refine Br ⟨iP,Amo iP,C.W,d,se,g,E7.kf (Ax.refl _ _),e.abs,n,?_⟩;rw[aL (λa=>by have:=a.2;rw[show e.abs.en=e.en from iP,p]at this;cases this)];exact⟨iP,iP⟩
  |false=>
   rw[p]at j;refine Bq j X ?_;walk_nrm;refine Trb ?_;refine Bq (S (j:=0) o iP) (v 0) ?_;walk_nrm;refine A3 (Rp C.W A.1 (B9 A.D A.tb A.wm A.sm d.last o9) o9 (by have:=g.1.V.1;rwa[l iP]at this) iP g.1.V.nv) iP Ac iP Af ?_;rintro x Z⟨H,P,rfl⟩;walk_nrm;refine Wad ?_;refine Od4 ?_;refine Ay ?_;refine Bq (S (j:=0) (H.get o id) iP) (v 0) ?_;walk_nrm;refine Bq (S (j:=0) (H.get a7 id) iP) (U 0) ?_;walk_nrm;refine A3 (An3 r (C.kx H P λ_ a=>a.elim) (g.kf H) i e V E 2 Ae Ae) iP Ac iP Ap ?_;rintro x B⟨rfl,M,O,Y,Q,R⟩;walk_nrm;refine Au ⟨iP,Amo iP,M,_,O,Y,(E7.kf H).trans Q,e.abs,n,?_⟩;rw[aJ ⟨iP,p⟩];exact⟨iP,R⟩
def Aak{b}(h:w.1[b]?=ni (jf cs 84))(s:cs.size=6){x y}(C:cs[1]?=ni x)(q:cs[2]?=ni y)(l:∀k,¬J (.cell (iK b k)))(o)(O:o.op=.store 82 (.tmp 37) (.tmp 35))(a:Act)(n:a.eval (.tmp 37)=w9 (ni (iK b 1)))(j:a.eval (.tmp 35)=h9 #[um su 0 0,vp o9]):(∀M,Go.Pair.Yields qz (execOp a.eval o) (w.at M) uw (((w.setCell (iK b 1) (um su 0 0)).setCell (iK b 2) (vp o9)).at M))/\∀M,∀e∈(execOp a.eval o).events qz (w.at M) #[],Fb J e:=by
 refine⟨λM=>n9 ⟨?_,iP⟩,λM=>?_⟩
 all_goals
  have m:(w.at M).cell? (iK b 1)=ni x:=S (j:=1) h C;have p:(w.at M).cell? (iK b 2)=ni y:=S (j:=2) h q;have ⟨_,D,a1,_⟩:=Iv (W:=w.at M) h;unfold execOp;rw[O];simp only[n,j]
 ·go_simp;simp only[at_set]
 ·intro e E;simp[go_sem,m,p,D,a1,events_store _ _ _ _ (um _ _ _) Mode.plain iP,events_store _ _ _ _ (vp _) Mode.plain iP,storedEv]at E;rcases E with rfl|rfl<;>exact Cl (l _)
def ZG(C:Cx F y D5 c u)(a:Full h z D5 c y u A d f m se)(V:se[i]?=ni e)(E:u.1[xb]?=ni (jf #[iI e.b] 79)):Hj qz tu D5 N 40 rd4 (λl n B=>(l=.normal∨l=.ret)/\n.defers = []/\Y u B (· = e.b)/\VW D5 c B/\Full (if e.en then Le h e.b (um su 0 0,vp o9) else h) z D5 c y B A d f m se) (LR A.1 e.b bv xb yb (!t) s) u:=by
 obtain⟨q,_,_⟩:=a.ses.one i e V;have b:=q.cell.2.2.1;obtain⟨cs,g,L,o,r,v,w⟩:=q.row;obtain⟨P,O⟩:=q.tl cs g;unfold rd4 LR;simp only[f40];refine Rxn ?_;apply Bq (cellOf (j:=0) E iP) (PG _);walk_nrm;refine Wad ?_;cases p:e.en with
 |false=>
  rw[p]at b;apply Bq b (PG _);walk_nrm;refine Zln ?_;exact Br ⟨p8 iP,iP,Y.refl _ _,C.W,a⟩
 |true=>
  rw[p]at b;refine Bq b (PG _) ?_;walk_nrm;refine Od4 ?_;refine Ay ?_;refine Bq (cellOf (j:=0) E iP) (PG _) ?_;walk_nrm;refine Trb ?_;have a6:=Aak (J:=D5) g L P O (λ_=>PG _);refine Cy (S:=env Lv) (fn:=40) iP Ac (B7 Ab) (A4 _ _) (x:=uw) (v':=(u.setCell (iK e.b 1) (um su 0 0)).setCell (iK e.b 2) (vp o9)) (a6 _ iP _ Ac Ac).1 (a6 _ iP _ Ac Ac).2 ?_;walk_nrm;have aa:=(Et u e.b 1 (um su 0 0)).trans (Et (u.setCell (iK e.b 1) (um su 0 0)) e.b 2 (vp o9));have D:((u.setCell (iK e.b 1) (um su 0 0)).setCell (iK e.b 2) (vp o9)).1[e.b]?=ni (jf ((cs.setIfInBounds 1 (um su 0 0)).setIfInBounds 2 (vp o9)) 84):=by
   rw[heap_setCell,aJ iP,heap_setCell,aJ iP,g];rfl
  exact Au ⟨p8 iP,iP,aa,((C.W.set e.b 1 (um su 0 0)).set e.b 2 (vp o9)),a.cutter V aa g D (λj _ k=>k) λk=>a.1.offD a.ses ⟨i,e,V,p8 k⟩⟩
end
def PE(cu:Nat->Z×Z)(se:List SI)(j:Nat):Prop:=∃(i:Nat)(p:SI),se[i]?=ni p/\(cu p.b).1.ownBlock=ni j
structure X7(cu:Nat->w8×w8)(Bs:hY)(gN u se)(qs:gY):Prop where
 one:∀(i:Nat)p,se[i]?=ni p->∃q,qs[i]?=ni q/\Pl q/\(cu p.b).2=vp o9/\u.ownsRow 0 5 1 (cu p.b).1 (iR q) (A5 q)/\IntsIn u (cu p.b).1/\∀g,(cu p.b).1.ownBlock=ni g->gN<=g/\¬Bs g/\¬Ho se g
 apart:∀(i j:Nat)p r,se[i]?=ni p->se[j]?=ni r->i≠j->∀g,(cu p.b).1.ownBlock=ni g->(cu r.b).1.ownBlock≠ni g
def Hy(cu:Nat->Z×Z)(A:SA)(fa:iE)(se:List SI)(j:Nat):Prop:=A.has fa j∨Ho se j∨PE cu se j
structure H0(cu:Nat->w8×w8)(valid Tabs gN Bs u A)(σ)(fa fc se qs):Prop where
 C:Cx Tabs gN D5 Bs u
 F:Full cu valid D5 Bs gN u A σ fa fc se
 Q:X7 cu Bs gN u se qs
 glob:∀i,i<8->∃c e fz,u.1[i]?=ni (jf c e fz)
structure Se(u u' A)(cu cu':Nat->w8×w8)(fa fa' se Fq):Prop where
 K:Ax u u' (Hy cu A fa se)
 new:∀j,Hy cu' A fa' Fq j->Hy cu A fa se j∨iS u.1<=j
 kb:(Fq.map λp=>(p.k,p.b))=se.map λp=>(p.k,p.b)
structure PC(gN)(Bs:hY)(u:qg)(Ft:hY)(D)(ob:iF)(C9 cap)(bs:hQ):Prop where
 row:∀bb,ob=ni bb->gN<=bb/\¬Bs bb/\¬Ft bb/\bb≠D/\∃c fz,u.1[bb]?=ni (jf c 5 fz)/\Jl c
 len:iR bs<=cap
 bby:bs≠[]->∃bb,ob=ni bb/\Bytes u bb C9 bs
section
variable {o:Nat->Z×Z} {a:iE} {se b:List SI}
def Ux{t}{n:Nat}{xs:iC}(h:IntsIn u t)(E:∀g,t.ownBlock=ni g->O.1[g]?=u.1[g]?):IntsIn O t:=λg a G M=>h g a G Ai
def X7.lt(h:X7 cu c y u se r){j}(l:PE cu se j):j<iS u.1:=by
 have ⟨i,p,Q,G⟩:=l;have ⟨q,_,_,_,O,_⟩:=h.one i p Q;exact Cm O G
def X7.kx(h:X7 cu c y u se r)(K:Y u O X)(E:∀j,PE cu se j->¬X j):X7 cu c y O se r:=
 ⟨λi b Q=>by
  have ⟨q,C,J,T,Z,z,f⟩:=h.one i b Q;have a:∀g,(cu b.b).1.ownBlock=ni g->O.1[g]?=u.1[g]?:=λg G=>K.block g (Cm Z G) (E g ⟨i,b,Q,G⟩);exact⟨q,C,J,T,Di Z a,Ux (n:=0) (xs:=[]) z a,f⟩,h.apart⟩
def H0.lt(h:H0 cu z F y c u A d fa m se r){j}(l:Hy cu A fa se j):j<iS u.1:=by
 rcases l with l|l|l
 ·exact h.F.lt (p8 l)
 ·exact h.F.lt (n9 l)
 ·exact h.Q.lt l
def H0.ge(h:H0 cu z F y c u A d fa m se r)(l:Hy cu A fa se j):y<=j:=by
 rcases l with l|l|l
 ·exact h.F.ge (p8 l)
 ·exact h.F.ge (n9 l)
 ·have ⟨i,p,Q,G⟩:=l;have ⟨q,_,_,_,_,_,f⟩:=h.Q.one i p Q;exact(f j G).1
def Li(h:∀i,i<8->∃c e a,u.1[i]?=ni (jf c e a))(K:Y u O X)(t:∀j,X j->8<=j):∀i,i<8->∃c e a,O.1[i]?=ni (jf c e a):=λi V=>by
 have ⟨c,e,a,M⟩:=h i V;exact⟨c,e,a,K.get M λZ=>by have:=t i Z;omega⟩
def H0.kx(h:H0 cu z F y c u A d fa m se r)(K:Y u O X)(W:VW D5 c O)(t:∀j,Hy cu A fa se j->¬X j)(a:¬X A.D)(G:∀j,X j->y<=j):H0 cu z F y c O A d fa m se r:=
 ⟨h.C.kx K W G,h.F.kx K (λj l=>t j (l.imp id p8)) a,h.Q.kx K λj l=>t j (n9 (n9 l)),Li h.glob K λj l=>aF h.C.g8 (G j l)⟩
def H0.kf(h:H0 cu z F y c u A d fa m se r)(K:Y u O iO):=
 h.kx K (h.C.W.ofK K (λ_ _ h=>h) λ_ h=>h.elim) (λ_ _ h=>h) (λh=>h) λ_ h=>h.elim
def Se.kf(K:Y u O iO):Se u O A cu cu fa fa se se:=⟨K.mono λ_ h=>h.elim,λ_ h=>p8 h,iP⟩
def Se.trans{U}{c:Nat->Z×Z}{d e}(h:Se u O A cu o fa a se b)(k:Se O U A o c a d b e):Se u U A cu c fa d se e:=
 ⟨h.K.trans' k.K λj l Y=>(h.new j l).elim id λh=>Aa,λj l=>(k.new j l).elim (h.new j) λf=>n9 (aF h.K.size f),k.kb.trans h.kb⟩
def E7.pin(G:E7 u O A fa a se b)(D:∀(i:Nat)c,b[i]?=ni c->∃p,se[i]?=ni p/\c.b=p.b)(l:PE cu b j):PE cu se j:=by
 have ⟨i,c,Q,d⟩:=l;have ⟨p,C,J⟩:=D i c Q;exact⟨i,p,C,by rwa[←J]⟩
def Lj{se a:List SI}(h:(a.map λp=>(p.k,p.b))=se.map λp=>(p.k,p.b))(i:Nat)(u)(V:a[i]?=ni u):∃p,se[i]?=ni p/\u.b=p.b:=by
 have ⟨p,C,J,_⟩:=Z2 h.symm V
 grind
def Full.offP(F:Full cu z D5 c y u A d fa m se){t}{X:iC}(O:u.ownsRow 0 5 1 t n X){g}(G:t.ownBlock=ni g):¬A.has fa g/\g≠A.D:=by
 have ⟨a,M⟩:=Ii O G;refine⟨λe=>?_,λe=>?_⟩
 ·have ⟨o,S,_,Y⟩:=F.1.obj F.map e
  grind
 ·subst e;rw[F.1.7]at M;cases M
def X7.step{a:Nat->w8×w8}(h:X7 cu c y u se r)(V:se[i]?=ni e)(H:∀j(b:SI),se[j]?=ni b->j≠i->b.b≠e.b)(K:Ax u O (λj=>A.has fa j∨Ho se j∨(cu e.b).1.ownBlock=ni j))(w:∀j,PE cu se j->¬A.has fa j)(z:∀j,Ho s j->Ho se j∨iS u.1<=j)(I:(s.map λb=>(b.k,b.b))=se.map λb=>(b.k,b.b))(C:a e.b=(x,vp o9))(J:∀f,f≠e.b->a f=cu f)(hq:Pl q)(a7:O.ownsRow 0 5 1 x (iR q) (A5 q))(aa:IntsIn O x)(E:∀g,x.ownBlock=ni g->y<=g/\¬c g/\¬Ho s g/\((cu e.b).1.ownBlock=ni g∨iS u.1<=g)):X7 a c y O s (r.set i q):=by
 obtain⟨a8,F,_⟩:=h.one i e V;have ab:i<iR r:=(aD.1 F).1;refine⟨λj S l=>?_,λj k b o l B p g m=>?_⟩
 ·obtain⟨b,Q,D⟩:=Lj I j S l;rw[D];by_cases W:i=j
  ·grind
  ·rw[J _ (H j b Q λG=>W G.symm),bD W];obtain⟨o,T,U,Z,n,a1,d⟩:=h.one j b Q;have B:∀g,(cu b.b).1.ownBlock=ni g->O.1[g]?=u.1[g]?:=λg G=>K.block g (Cm n G) (by
    rintro(P|P|P)
    ·exact w g ⟨j,b,Q,G⟩ P
    ·exact(d g G).2.2 P
    ·exact h.apart i j e b V Q W g P G)
   refine⟨o,T,U,Z,Di n B,Ux (n:=0) (xs:=[]) a1 B,λg G=>⟨(d g G).1,(d g G).2.1,λhs=>?_⟩⟩;rcases z g hs with P|P
   ·exact(d g G).2.2 P
   ·have:=Cm n G;omega
 ·obtain⟨N,Q,D⟩:=Lj I j b l;obtain⟨M,Y,a6⟩:=Lj I k o B;rw[D]at m;rw[a6];have v:∀k(M:SI),se[k]?=ni M->k≠i->∀g,x.ownBlock=ni g->(cu M.b).1.ownBlock≠ni g:=λk M Y t g X L=>by
   rcases(E g X).2.2.2 with P|P
   ·exact h.apart i k e M V Y (λG=>t G.symm) g P L
   ·obtain⟨_,_,_,_,n,_⟩:=h.one k M Y;have:=Cm n L;omega
  by_cases R:j=i
  ·subst R;rw[V]at Q;obtain rfl:=aA Q;rw[C]at m;rw[J _ (H k M Y λG=>p G.symm)];exact v k M Y (λG=>p G.symm) g m
  ·rw[J _ (H j N Q R)]at m;by_cases t:k=i
   ·subst t;rw[V]at Y;obtain rfl:=aA Y;rw[C];exact λG=>v j N Q R g G m
   ·rw[J _ (H k M Y t)];exact h.apart j k N M Q Y p g m
def PE.step{c:Nat->Z×Z}(V:se[i]?=ni e)(H:∀j(p:SI),se[j]?=ni p->j≠i->p.b≠e.b)(a:(s.map λp=>(p.k,p.b))=se.map λp=>(p.k,p.b)){y}(C:c e.b=(x,y))(J:∀b,b≠e.b->c b=cu b)(G:∀g,x.ownBlock=ni g->(cu e.b).1.ownBlock=ni g∨M<=g)(l:PE c s j):PE cu se j∨M<=j:=by
 have ⟨k,u,E,m⟩:=l;have ⟨p,Y,q⟩:=Lj a k u E;rw[q]at m;by_cases t:k=i
 ·subst t;rw[V]at Y;obtain rfl:=aA Y;rw[C]at m;exact(G j m).imp (λh=>⟨k,e,V,h⟩) id
 ·rw[J _ (H k p Y t)]at m;exact p8 ⟨k,p,Y,m⟩
def Hy.step{c:Nat->Z×Z}(d:∀g,Fx a=ni g->Fx fa=ni g∨M<=g)(b:∀j,Ho s j->Ho se j∨M<=j)(e:∀j,PE c s j->PE cu se j∨M<=j)(l:Hy c A a s j):Hy cu A fa se j∨M<=j:=by
 rcases l with l|l|l
 ·rcases l with h|h|h|h
  ·exact p8 (p8 (p8 h))
  ·exact p8 (p8 (n9 (p8 h)))
  ·exact(d j h).imp (λh=>p8 (n9 (n9 (p8 h)))) id
  ·exact p8 (p8 (n9 (n9 (n9 h))))
 ·exact(b j l).imp (λh=>n9 (p8 h)) id
 ·exact(e j l).imp (λh=>n9 (n9 h)) id
def partOf(l:List AS)(i:Nat)(q:hQ):hQ:=if(l[i]?.map AS.en).getD tu then [] else q
def U4.en{e G V}(h:U4 i t e B G V)(R:t=tu){a}(d:V[i]?=ni a):a.en=tu:=by
 have ⟨b,D,h⟩:=h;split at h
 ·obtain⟨_,rfl⟩:=h;unfold Na at d
  grind
 grind
def Ao1{Post:PA y F}{K}{f:gY}(ak:Im z F)(H:H0 cu z F y c u A d fa m se r)(V:se[i]?=ni e)(hq:r[i]?=ni q)(B:PC y c u (Hy cu A fa se) A.D ob T I W)(hC:E6 q W f K t)(bf:Pl K)(hn:Pl [])(bg:∀done p bh G l',f=done++p::bh->Gj z i done d (se.map SI.abs) G l'->Y3 z F y A.tb A.5 i p G l')(bj:∀v l1,Gj z i f d (se.map SI.abs) v l1->GD l1/\(t=tu->v.down=o9)):Bg qz tu D5 (Jh Post) 40 #[iI A.1,iI e.b,Jd ob T (iR W) I] u λan O=>an=my #[]/\∃o G a bk b,H0 o z F y c O A G a bk b (r.set i (partOf (b.map SI.abs) i K))/\Se u O A cu o fa a se b/\FD z i f t d (se.map SI.abs) G (b.map SI.abs):=by
 obtain⟨q0,ao,bm,bn,bo,cc,a6⟩:=H.Q.one i e V;rw[hq]at ao;obtain rfl:=aA ao;obtain⟨S0,_,_⟩:=H.F.ses.one i e V;apply Bh func40 Ac iP (R:=λ_=>my #[]) (λ_ _=>results_none Ac _ _ _) (λ_ _=>kmq Ac _ _);simp only[ntmps40,na,Nat.reduceAdd,Nat.reduceSub];refine Rxn ?_;apply Dl (#[iI A.1]) 68;walk_nrm;have K1:=Ba u #[iI A.1] 68 iO;have b1:(u.alloc (jf #[iI A.1] 68)).1[iS u.1]?=ni (jf #[iI A.1] 68):=sx _ _;generalize u.alloc (jf #[iI A.1] 68)=Z at K1 b1⊢;apply Dl (#[iI e.b]) 79;walk_nrm;have K2:=Ba Z #[iI e.b] 79 iO;have b2:(Z.alloc (jf #[iI e.b] 79)).1[iS Z.1]?=ni (jf #[iI e.b] 79):=sx _ _;have a7:=K2.get b1 id;generalize Z.alloc (jf #[iI e.b] 79)=u2 at K2 b2 a7⊢;have ag:=K1.trans K2;have z1:=K1.size;have L:=H.kf ag;have w:¬(A.has fa Z.1.size∨Ho se Z.1.size):=λh=>by have:=H.F.lt h;omega
 have aq:¬c Z.1.size:=λh=>by have:=H.C.W.lt h;omega
 have ar:¬c u.1.size:=λh=>by have:=H.C.W.lt h;omega
 have bq:EIn cu z F y c u2 A d fa m se i e (cu e.b).1 q ob T I W Z.1.size u.1.size:=by
  obtain⟨q1,au,_,_,br,bu,bw⟩:=L.Q.one i e V;rw[hq]at au;obtain rfl:=aA au;refine⟨L.C,L.F,V,by rw[←bn],br,bu,bw,λX D=>?_,λX D=>λh=>(B.row X D).2.2.1 (p8 h),λX D=>(B.row X D).2.2.2.1,B.len,λa8=>?_,L.glob,b2,a7,aq,ar,w,(λh=>by have:=H.F.lt h;omega)⟩
  ·obtain⟨bx,a2,a3,a4,av,fz,a5,bz⟩:=B.row X D;exact⟨bx,a2,λh=>a3 (n9 (p8 h)),λh=>a3 (n9 (n9 ⟨i,e,V,h⟩)),av,fz,ag.get a5 id,bz⟩
  ·obtain⟨X,D,c6⟩:=B.bby a8;obtain⟨_,_,_,_,av,fz,a5,_⟩:=B.row X D;exact⟨X,D,λj l=>(Ce (ag.block X (ltOf a5) id)).trans (c6 j l)⟩
 refine Vj2 ?_;refine Rxn ?_;refine Bq (cellOf (j:=0) b2 iP) (PG _) ?_;walk_nrm;refine Ldr ?_;refine A3 (Akn (Post:=Post) ak bq hC bm bg) iP Ac iP Ap ?_;rintro an vF⟨rfl,v,ad,aw,cd,M,af,CF,FF,N,c7,R,S,ax,aj,ay⟩;walk_nrm;refine Ths ?_;obtain⟨p1,U,Y,_⟩:=Z2 ay V;have az:=bj v _ af;have b5:∀j,(j=iS Z.1∨j=iS u.1)->¬(A.has fa j∨Ho se j∨(cu e.b).1.ownBlock=ni j):=λj l h=>by
  have:j<iS u.1:=by
   rcases h with h|h|h
   ·exact H.F.lt (p8 h)
   ·exact H.F.lt (n9 h)
   ·exact Cm bo h
  rcases l with rfl|rfl<;>omega
 have b6:vF.1[iS Z.1]?=ni (jf #[iI p1.b] 79):=by rw[Y];exact S.get b2 (b5 _ (p8 iP))
 refine Aw ?_;refine Amz (svb:=A.1) (sb:=e.b) (bv:=Jd ob T (iR W) I) (xb:=iS Z.1) (yb:=iS u.1) (whole:=!t) iP λs=>?_;rw[←Y];refine Cr (Ah3 (s:=s) (bv:=Jd ob T (iR W) I) ak CF FF U (az.1.lo _ (dC (aV U))) az.2 b6 aq (S.get a7 (b5 _ (n9 iP))) ar) ?_;rintro k a' w2⟨rfl,⟨s',rfl⟩,W2,σ2,C,F2,Q,hL⟩;simp only[A0];obtain⟨n,ah,E,_⟩:=Z2 Q.kb U;have P:=Q.kb.trans ay;have cf:=ag.size;have cg:=S.size;have ab:∀j,Ho C j->Ho se j∨iS u.1<=j:=λj l=>by
  rcases Q.sin j l with h|h
  ·exact(aj j h).imp id λh=>Aa
  ·exact n9 Aa
 have c8:w2.1[iS Z.1]?=ni (jf #[iI n.b] 79):=by
  rw[E];refine Q.K.get b6 λh=>?_;rcases h with h|h
  ·rcases h with h|h|h|h
   ·exact w (p8 (p8 h))
   ·exact w (p8 (n9 (p8 h)))
   ·rcases ax _ h with h|h
    ·exact w (p8 (n9 (n9 (p8 h))))
    ·have:=ltOf b2;omega
   ·exact w (p8 (n9 (n9 (n9 h))))
  ·rcases aj _ h with h|h
   ·exact w (n9 h)
   ·have:=ltOf b2;omega
 have C2:=CF.kx Q.K W2 λj h=>FF.ge h;rw[←E];refine Cr (ZG (s:=s') (t:=t) (yb:=iS u.1) (bv:=Jd ob T (iR W) I) C2 F2 ah c8) ?_;rintro k a' w3⟨he,hd,K3,W3,F3⟩;have al:∀(j:Nat)(x:SI),se[j]?=ni x->j≠i->x.b≠e.b:=λj x hp a8=>(H.F.ses.apart j i x e hp V a8).1;have ai:∀g,Fx ad=ni g->Fx fa=ni g∨iS u.1<=g:=λg hg=>(ax g hg).imp id λh=>Aa;have a1:Ax u w3 (λj=>A.has fa j∨Ho se j∨(cu e.b).1.ownBlock=ni j):=by
  refine(((ag.mono λ_ h=>h.elim).trans S).trans' Q.K λj l Ig=>?_).trans' K3 λj l Ig=>(n9 (p8 ⟨i,e,V,p8 (l.trans (E.trans Y))⟩))
  ·rcases l with h|h
   ·rcases h with h|h|h|h
    ·exact p8 (p8 h)
    ·exact p8 (n9 (p8 h))
    ·rcases ai j h with h|h
     ·exact p8 (n9 (n9 (p8 h)))
     ·omega
    ·exact p8 (n9 (n9 (n9 h)))
   ·rcases aj j h with h|h
    ·exact n9 (p8 h)
    ·omega
 have b7:∀j,PE cu se j->¬A.has fa j:=λj⟨c9,x,hp,hg⟩=>by
  obtain⟨_,_,_,_,h4,_⟩:=H.Q.one c9 x hp;exact(H.F.offP h4 hg).1
 have b8:=Li H.glob a1 (by
  have g8:=H.C.g8;rintro j(h|h|h)
  ·have:=H.F.ge (p8 h);omega
  ·have:=H.F.ge (n9 h);omega
  ·have:=(a6 j h).1;omega)
 have b9:Ax u w3 (Hy cu A fa se):=a1.mono λj h=>by
  rcases h with h|h|h
  ·exact p8 h
  ·exact n9 (p8 h)
  ·exact n9 (n9 ⟨i,e,V,h⟩)
 have ba:n.b=e.b:=E.trans Y;have bb:(C.map SI.abs)[i]?=ni n.abs:=by rw[aT,ah];rfl
 have aa:partOf (C.map SI.abs) i K=if n.en then [] else K:=by unfold partOf;rw[bb];rfl
 have bc:=C2.kx K3 W3 (λj h=>by rw[h];exact(F2.ses.one i n ah).2.1);cases J:n.en with
 |true=>
  rw[J,aJ iP]at F3;rw[J,aJ iP]at aa;have h1:Le (Le cu e.b (M,vp t)) n.b (um su 0 0,vp o9) e.b=(um su 0 0,vp o9):=by rw[ba];exact Jo _ _ _
  have h2:∀p,p≠e.b->Le (Le cu e.b (M,vp t)) n.b (um su 0 0,vp o9) p=cu p:=λp D=>by rw[ba,I5 _ _ D,I5 _ _ D]
  refine⟨he,hd,trivial,_,σ2,ad,aw,C,⟨bc,F3,aa.symm▸H.Q.step V al a1 b7 ab P h1 h2 hn ⟨by simp[A5],p8 ⟨iP,iP⟩⟩ (λg cj k=>by cases k) (λg k=>by cases k),b8⟩,⟨b9,λj l=>Hy.step ai ab (λj l=>PE.step V al P h1 h2 (λg k=>by cases k) l) l,P⟩,v,_,af,hL⟩
 |false=>
  rw[J,aL Ad]at F3;rw[J,aL Ad]at aa;obtain rfl:t=o9:=by
   cases t with
   |false=>rfl
   |true=>have:=hL.en iP bb;rw[show n.abs.en=n.en from iP,J]at this;cases this
  have ae:∀g,M.ownBlock=ni g->(cu e.b).1.ownBlock=ni g∨iS u.1<=g:=λg k=>((R g k).2).imp id λh=>Aa;have bd:∀g,M.ownBlock=ni g->w3.1[g]?=vF.1[g]?:=λg k=>by
   have Ig:=Cm N k;rw[K3.block g (aC Ig Q.K.size) ?_,Q.K.block g Ig ?_]
   ·rintro(h|h)
    ·exact(FF.offP N k).1 h
    ·exact(R g k).1 h
   ·intro h;exact(R g k).1 ⟨i,p1,U,p8 (h.trans E)⟩
  refine⟨he,hd,trivial,_,σ2,ad,aw,C,⟨bc,F3,aa.symm▸H.Q.step V al a1 b7 ab P (Jo _ _ _) (λp D=>I5 _ _ D) bf (Di N bd) (Ux (n:=0) (xs:=[]) c7 bd) (λg k=>?_),b8⟩,⟨b9,λj l=>Hy.step ai ab (λj l=>PE.step V al P (Jo _ _ _) (λp D=>I5 _ _ D) ae l) l,P⟩,v,_,af,hL⟩;refine⟨?_,?_,?_,ae g k⟩
  ·rcases ae g k with h|h
   ·exact(a6 g h).1
   ·exact aF H.C.sz h
  ·rcases ae g k with h|h
   ·exact(a6 g h).2.1
   ·exact λD=>by have:=H.C.W.lt D;omega
  ·intro hs;rcases Q.sin g hs with h|h
   ·exact(R g k).1 h
   ·have:=Cm N k;omega
end
section
variable {o:Nat->Z×Z} {J:hZ} {a:iE} {se b:List SI}
def FP(L:Bl qz 3 u A.sm (E0 (se.map λp=>(p.k,p.b))))(V:se[i]?=ni e)(E:zv qz 3 (iL e.k)=ni (pkj yi e.k)):(Instr.lookup 93 (.map (ni A.sm)) (iL e.k) o9).run qz u=.ok (iI e.b) u:=
 Bl.look_some o9 L Aoe underlying93 E (by
  grind)
def Aja(W:VW J c u)(F:Full cu z J c y u A d fa m se)(V:se[i]?=ni e)(M:zv E 3 (iL e.k)=ni (pkj yi e.k)):Bg E tu J N 38 #[iI A.1,iL e.k] u λx O=>Y u O iO/\VW J c O/\x=iI e.b:=
 Bp (Gl Ae W (R:=λx _=>x=iI e.b) (λ_ _ h=>h) λL s=>(FQ L A.1 A.sm e.b e.k (S (j:=3) ((s.same F.1.V.nv).trans F.1.V.1) iP) (FP (F.map.of_block (s.same F.1.12)) V M)).mono λf B h=>⟨⟨_,h.1,iP⟩,by rw[h.2];exact Y.refl _ _⟩) λx Z h=>⟨h.1,h.2.1,Ai⟩
def UK(b:Bool):Int:=if b then 18 else 0
def An6{Post:PA y F}{K}{f:gY}(af:Im z F)(g:H0 cu z F y c u A d fa m se r)(V:se[i]?=ni e)(E:zv qz 3 (iL e.k)=ni (pkj yi e.k))(J:d.down=o9)(L:e.en=o9)(N:r[i]?=ni q)(B:PC y c u (Hy cu A fa se) A.D ob T I W)(U:E6 q W f K t)(l:∀a1 a6 ah G l',f=a1++a6::ah->Gj z i a1 d (se.map SI.abs) G l'->Y3 z F y A.tb A.5 i a6 G l')(ai:∀a7 l1,Gj z i f d (se.map SI.abs) a7 l1->GD l1/\(t=tu->a7.down=o9)):Bg qz tu D5 (Jh Post) 27 #[iI A.1,iL e.k,Jd ob T (iR W) I] u λx O=>∃o G a h b,x=iL (UK G.down)/\H0 o z F y c O A G a h b (r.set i (partOf (b.map SI.abs) i K))/\Se u O A cu o fa a se b/\FD z i f t d (se.map SI.abs) G (b.map SI.abs):=by
 obtain⟨_,a8,C,_⟩:=g.Q.one i e V;rw[N]at a8;obtain rfl:=aA a8;apply Bh func27 Ac iP (R:=λbo=>bo.getD 6 uw) (λ_ _=>we Ac _ _ _) (λ_ _=>xrg Ac _ _);unfold Jd at *;simp only[ntmps27,na,Nat.reduceAdd,Nat.reduceSub];refine Rxn ?_;refine Ths ?_;refine Rxn ?_;refine Wad ?_;refine A3 (Aja g.C.W g.F V E) iP Ac iP Af ?_;rintro x aj⟨j,M,rfl⟩;walk_nrm;refine Ths ?_;have w:=g.kf j;refine M8j ?_;refine Qit ?_;refine Zln ?_;refine Nqc ?_;refine M8j ?_;refine Mwc ?_;refine A3 (Rp M A.1 (B9 A.D A.tb A.wm A.sm d.last o9) o9 (by have:=w.F.1.V.1;rwa[J]at this) iP w.F.1.V.nv) iP Ac iP Af ?_;rintro x Z⟨H,P,rfl⟩;walk_nrm;refine Zln ?_;refine Nqc ?_;have k:=w.kf H;obtain⟨Q,_,_⟩:=k.F.ses.one i e V;refine R5v ?_;refine Trb ?_;have S:Z.cell? (iK e.b 4)=ni (vp o9):=by rw[←L];exact Q.cell.2.2.1
 refine Bq S (PG _) ?_;walk_nrm;refine Ths ?_;refine E37 ?_;refine Ay ?_;refine Trb ?_;have v:=j.trans H;have B2:PC y c Z (Hy cu A fa se) A.D ob T I W:=⟨λX D=>by
  obtain⟨ak,al,an,n,aa,R,Y,ao⟩:=B.row X D;exact⟨ak,al,an,n,aa,R,v.get Y id,ao⟩,B.len,λaq=>by
  obtain⟨X,D,ar⟩:=B.bby aq;obtain⟨_,_,_,_,aa,R,Y,_⟩:=B.row X D;exact⟨X,D,λau hj=>(Ce (v.block X (ltOf Y) id)).trans (ar au hj)⟩⟩
 refine A3 (Ao1 (Post:=Post) af k V N B2 U (U.ok C) I9 l ai) iP Ac iP Acb ?_;rintro x u3⟨rfl,o,G,a,h,b,p,G3,hR⟩;walk_nrm;refine Au ?_;simp only[A0];refine M8j ?_;refine Mwc ?_;refine A3 (Rp p.C.W A.1 (B9 A.D A.tb A.wm A.sm G.last G.down) G.down p.F.1.V.1 iP p.F.1.V.nv) iP Ac iP Af ?_;rintro x av⟨ab,W4,rfl⟩;walk_nrm;refine Vj2 ?_;have ad:=p.kf ab;have ae:=((Se.kf (A:=A) (cu:=cu) (fa:=fa) (se:=se) v).trans G3).trans (Se.kf ab);cases s:G.down with
 |true=>
  refine E37 ?_;exact G1h
 |false=>
  refine Ofi ?_;exact G1h
end
def Aqe{c:iB}(h:c.size=6):∃y m a S n Y,c=#[y,m,a,S,n,Y]:=by
 have ⟨l⟩:=c
 match l,h with
 |[y,m,a,S,n,Y],_=>grind
section
variable {o:Nat->Z×Z} {p:hY} {J:hZ} {a:iE} {se b:List SI} {p0:SI} {g:Nat} {q:mi}
def vw0(u):VW D5 iO u:=⟨λ_ h=>h.elim,λ_ h=>h.elim,λ_ h=>h.elim,λ_ h=>h⟩
def Lw:List pz:=Lv++[12,28,37,24]
def Alh:(Lw.all λf=>QU E Lw f)=tu:=Ab
def Aqn:=Adr JY λf I=>cR.1 Alh f I
def Aok{b f}(I:f∈Lw)(W:VW J c u){a:iB}{R:iH}(t:∀r,J (.obj r)->¬X r)(H:∀v,Yb c u v->Calls E f a v λe B=>(∃x,e=xr x/\R x B)/\Y v B X):Bg E b J N f a u λx O=>Y u O X/\VW J c O/\∃U,(∀i,¬c i->U.1[i]?=O.1[i]?)/\iS U.1=iS O.1/\R x U:=by
 refine Bp (M5 Aqn (show f∈Lw from I) W.rows W.blind W.low (A4 _ _) (R:=λe B=>∃v,Yb c u v/\(∃x,e=xr x/\R x B)/\Y v B X) (λj v h=>?_) (λv h=>?_) (λv s=>(H v s).mono λe B h=>⟨v,s,h⟩)) ?_
 ·grind
 ·grind
 ·exact Dg9
def Pf{f}(I:f∈Lw){args:iB}{R:iH}(H:∀w:qg,(∀i:Nat,w.1[i]?=u.1[i]?)->iS w.1=iS u.1->Calls E f args w λe B=>(∃x,e=xr x/\R x B)/\Y w B X):Bg E tu D5 N f args u λx O=>Y u O X/\∃w,(∀i:Nat,w.1[i]?=O.1[i]?)/\iS w.1=iS O.1/\R x w:=
 Bp (Aok I (vw0 u) (X:=X) (R:=R) (λ_ h=>h.elim) λL s=>H L (λi=>s.same id) s.size) λx O h=>⟨h.1,Ai⟩
def Ac7(s:u.1[g]?=ni (jf U q))(F:U[0]?=ni x):Bg E tu D5 N 26 #[iI g] u λy O=>y=x/\Y u O iO:=
 Bp (Pf Ae (R:=λy _=>y=x) λw W b=>(Rn w g x (S (j:=0) ((W g).trans s) F)).mono λa B h=>⟨⟨_,h.1,iP⟩,by rw[h.2];exact Y.refl _ _⟩) λy O h=>⟨Ai,h.1⟩
def PC.kf{v}(B:PC y c u v D ob T I W)(K:Ax u O iO):PC y c O v D ob T I W:=
 ⟨λX b=>by
  have ⟨m,d,S,n,a,e,Y,f⟩:=B.row X b;exact⟨m,d,S,n,a,e,K.get Y id,f⟩,B.len,λg=>by
  have ⟨X,b,o⟩:=B.bby g;have ⟨_,_,_,_,a,e,Y,_⟩:=B.row X b;exact⟨X,b,λj l=>(Ce (K.block X (ltOf Y) id)).trans (o j l)⟩⟩
def Aci{Post:PA y F}{f K:hQ}{bs}{e:gY}(x:Im z F)(H:H0 cu z F y c u A d fa m se r)(s:u.1[g]?=ni (jf U q))(al:U[0]?=ni (iI A.1))(V:se[i]?=ni p0)(E:zv qz 3 (iL p0.k)=ni (pkj yi p0.k))(J:d.down=o9)(C:p0.en=o9)(D:r[i]?=ni f)(B:PC y c u (Hy cu A fa se) A.D ob T I bs)(L:E6 f bs e K t)(l:∀j k M G p,e=j++k::M->Gj z i j d (se.map SI.abs) G p->Y3 z F y A.tb A.5 i k G p)(N:∀v w,Gj z i e d (se.map SI.abs) v w->GD w/\(t=tu->v.down=o9)):Bg qz tu D5 (Jh Post) 10 #[iI g,iL p0.k,Jd ob T (iR bs) I] u λW O=>∃o G a h b,W=iL (UK G.down)/\H0 o z F y c O A G a h b (r.set i (partOf (b.map SI.abs) i K))/\Se u O A cu o fa a se b/\FD z i e t d (se.map SI.abs) G (b.map SI.abs):=by
 refine Vjk ?_;refine Rxn ?_;refine Ths ?_;refine Rxn ?_;refine V2g ?_;apply A3 (Ac7 s al) iP Ac iP Af;rintro W ae⟨rfl,ad⟩;walk_nrm;refine Wad ?_;apply A3 (An6 (Post:=Post) x (H.kf ad) V E J C D (B.kf ad) L l N) iP Ac iP Ap;rintro W n⟨o,G,a,h,b,rfl,P,Q,R⟩;walk_nrm;refine Ths ?_;exact Dm ⟨n9 iP,iP,o,G,a,h,b,iP,P,(Se.kf ad).trans Q,R⟩
def X7.reSe(h:X7 cu c y u se r)(a:(b.map λp=>(p.k,p.b))=se.map λp=>(p.k,p.b))(s:∀j,Ho b j->Ho se j):X7 cu c y u b r:=
 ⟨λi d X=>by
  have ⟨p,C,J⟩:=Lj a i d X;have ⟨q,k,l,S,n,o,t⟩:=h.one i p C
  grind,λi j p e Q Y f=>by
  have ⟨m,C,J⟩:=Lj a i p Q;have ⟨M,T,g⟩:=Lj a j e Y;rw[J,g];exact h.apart i j m M C T f⟩
def SI.taken(p:SI):SI:={ p with lo:=[],ov:=um su 0 0 }
def Ajk(H:H0 cu z F y c u A d fa m se r)(s:u.1[g]?=ni (jf U q))(Q:U[0]?=ni (iI A.1))(V:se[i]?=ni p0)(T:zv qz 3 (iL p0.k)=ni (pkj yi p0.k)):Bg qz tu D5 N 12 #[iI g,iL p0.k] u λx O=>x=my #[p0.6,iL 0]/\H0 cu z F y c O A d fa m (se.set i p0.taken) r/\Se u O A cu cu fa fa se (se.set i p0.taken)/\O.ownsRow 0 5 1 p0.6 (iR p0.lo) (A5 p0.lo):=by
 obtain⟨a,Z,X⟩:=H.F.ses.one i p0 V;obtain⟨ad,M,hz,c0,a1,c4,o⟩:=a.row;obtain⟨B,G,v,S,n,a6,rfl⟩:=Aqe hz;obtain rfl:a6=p0.ov:=by simpa using o
 obtain⟨C,a7,Y⟩:=a.slice;rw[Y]at M;refine Bp (Pf (f:=12) Ae (X:=(· = p0.b)) (R:=λx w=>x=my #[p0.6,iL 0]/\w.1[p0.b]?=ni (jf #[B,G,v,S,n,um su 0 0] 84)) λw W ae=>(Amh w g A.1 A.sm p0.b p0.k (cellOf (j:=0) ((W g).trans s) Q) (cellOf (j:=3) ((W A.1).trans H.F.1.V.1) iP) (FP (H.F.map.of_block (W _)) V T) B G v S n C (iR p0.lo) a7 ((W _).trans M)).mono λe w' h=>⟨⟨_,h.1,by rw[Y],?_⟩,?_⟩) ?_
 ·rw[h.2,heap_setCell,aJ iP,W,M]
  rfl
 ·rw[h.2];exact Et w p0.b 5 _
 rintro x O⟨K,w,W,_,a8,D⟩;rw[W]at D;have aa:Gm cu D5 c O p0.b p0.k p0.ver p0.en (um su 0 0) []:=by
  refine⟨a.inb,a.j,⟨_,D,Ad,by simpa using c0,by simpa using a1,by simpa using c4,Ad⟩,⟨by simp[A5],p8 ⟨iP,iP⟩⟩,λb e=>BB,λaf I=>?_⟩;rw[D]at I;cases I;rw[Y]at o;have:=a.tl _ (Y▸M);simpa using this
 obtain⟨R,t⟩:=H.F.swap (p':=p0.taken) V H.C.sz (K.mono λj h=>p8 h) iP iP aa (λb e=>BB);have J:VW D5 c O:=⟨λj l=>by
  by_cases e:j=p0.b
  ·subst e;exact⟨_,_,_,D⟩
  ·rw[K.block j (H.C.W.lt l) e];exact H.C.W.rows j l,λ_ h=>h.elim,λ_ h=>h.elim,λ_ h=>h⟩
 have L:∀j,Ho (se.set i p0.taken) j->Ho se j:=λj⟨k,p,E,l⟩=>by
  by_cases e:i=k
  ·subst e;rw[bI (aD.1 V).1]at E;obtain rfl:=aA E;rcases l with l|l
   ·exact⟨i,p0,V,p8 l⟩
   ·cases l
  ·rw[bD e]at E;exact⟨k,p,E,l⟩
 have ab:∀j,PE cu se j->j≠p0.b:=λj⟨k,p,E,l⟩e=>by
  obtain⟨_,_,_,_,_,_,f⟩:=H.Q.one k p E;exact(f j l).2.1 (e▸a.inb)
 refine⟨a8,⟨H.C.kx K J λj h=>by rwa[h],R,(H.Q.kx K ab).reSe t.kb L,Li H.glob K λj h=>by rw[h];exact aF H.C.g8 Z⟩,⟨(K.mono λj h=>n9 (p8 ⟨i,p0,V,p8 h⟩)),λj l=>?_,t.kb⟩,(Di a.own λb P=>K.block b (Cm a.own P) λe=>a.ap b P (e▸a.inb))⟩;rcases l with h|h|h
 ·exact p8 (p8 h)
 ·exact p8 (n9 (p8 (L j h)))
 ·exact p8 (n9 (n9 (t.pin (Lj t.kb) h)))
def H0.grow(H:H0 cu z F y c u A d fa m se r)(W:VW D5 p u)(C:∀i,c i->p i)(J:∀i,p i->c i∨(y<=i/\¬Hy cu A fa se i/\i≠A.D)):H0 cu z F y p u A d fa m se r:=by
 have S:=H.F.1;have n:∀i,A.has fa i->¬c i->¬p i:=λi l e D=>(J i D).elim e λh=>h.2.1 (p8 l);refine⟨⟨W,H.C.G,λi l=>(J i l).elim (H.C.3 i) λh=>aF H.C.g8 h.1,H.C.sz,H.C.g8⟩,⟨⟨⟨S.V.1,n _ (p8 iP) S.V.nv,S.V.ht,n _ (n9 (n9 (n9 (p8 iP)))) S.V.4,n _ (n9 (n9 (n9 (n9 (p8 iP))))) S.V.nm,S.V.6,S.V.z2⟩,S.2,S.3,S.hw,S.5,S.6,S.7,S.st,S.9,S.l1,n _ (n9 (n9 (n9 (n9 (n9 (p8 iP)))))) S.nw,n _ (n9 (n9 (n9 (n9 (n9 (n9 iP)))))) S.12,λD=>(J _ D).elim S.nD λh=>h.2.2 iP,n _ (n9 (p8 iP)) S.nK,λg G=>n g (n9 (n9 (p8 G))) (S.nf g G),S.gv,S.gt,S.gm,S.gw,S.gs,S.gD,S.gK,S.gf,S.wmb,S.wsm,S.mbs⟩,⟨λi b Q=>⟨let T:=(H.F.ses.one i b Q).1;⟨C _ T.inb,T.j,T.row,T.own,λg G D=>(J g D).elim (T.ap g G) λh=>h.2.1 (n9 (p8 ⟨i,b,Q,n9 G⟩)),T.tl⟩,(H.F.ses.one i b Q).2⟩,H.F.ses.apart⟩,H.F.map⟩,⟨λi b Q=>?_,H.Q.apart⟩,H.glob⟩;have ⟨q,f,j,k,o,Y,a⟩:=H.Q.one i b Q;exact⟨q,f,j,k,o,Y,λg G=>⟨(a g G).1,λD=>(J g D).elim (a g G).2.1 λh=>h.2.1 (n9 (n9 ⟨i,b,Q,G⟩)),(a g G).2.2⟩⟩
end
section
variable {o:Nat->Z×Z} {p:hY} {J:hZ} {a:iE} {se b:List SI} {g:Nat} {q:mi}
def Lb(k:Int)(N:Nat):SI:=⟨k,N,0,o9,[],um su 0 0⟩
def newRow(k:Int):Array Z:=#[iL k,um su 0 0,vp o9,iL 0,vp o9,um su 0 0]
def VQ{N}(h:Ho (se++[Lb k N]) j):Ho se j∨j=N:=by
 obtain⟨a,p,Q,l⟩:=h;by_cases K:a<iR se
 ·rw[fT K]at Q;exact p8 ⟨a,p,Q,l⟩
 ·rw[dK Aa]at Q;have d:a - iR se=0:=by
   have:=(aD.1 Q).1;simpa using this
  rw[d]at Q;obtain rfl:Lb k N=p:=by simpa using Q
  rcases l with l|l
  ·exact n9 l
  ·cases l
def Nc{N a p}(Q:(se++[Lb k N])[a]?=ni p):(a<iR se/\se[a]?=ni p)∨(a=iR se/\p=Lb k N):=by
 grind
def H0.connect(H:H0 h z F y c u A d f m se r)(ab:iR r=iR se)(J:d.down=o9)(K:Ax u O (λj=>j=A.1∨j=A.sm))(hv:O.1[A.1]?=ni (jf (B9 A.D A.tb A.wm A.sm k o9) 95))(D:O.1[iS u.1]?=ni (jf (newRow k) 84))(a1:Bl qz 3 O A.sm (E0 (se.map λb=>(b.k,b.b))++[(iL k,iI u.1.size)])):H0 (Le h u.1.size (um su 0 0,vp o9)) z F y (λj=>c j∨j=iS u.1) O A { d with last:=k } f m (se++[Lb k u.1.size]) (r++[[]]):=by
 have S:=H.F.1;have C:=H.C.sz;have x:A.has f A.svb:=p8 iP;have B:A.has f A.sm:=n9 (n9 (n9 (n9 (n9 (n9 iP)))));have n:∀j,j<iS u.1->¬c j->¬(c j∨j=iS u.1):=λj l a6 a=>a.elim a6 λe=>Aa;have N:∀j,(j=A.1∨j=A.sm)->y<=j:=by
  rintro j(rfl|rfl)
  ·exact S.gv
  ·exact S.gs
 have P:∀j,c j->¬(j=A.1∨j=A.sm):=by
  rintro j l(rfl|rfl)
  ·exact S.V.nv l
  ·exact S.12 l
 have X:∀j,Ho se j->¬(j=A.1∨j=A.sm):=by
  rintro j l(rfl|rfl)
  ·exact S.offS H.F.map H.F.ses x l
  ·exact S.offS H.F.map H.F.ses B l
 have E:∀j,PE h se j->¬(j=A.1∨j=A.sm):=λj⟨i,b,Q,l⟩a=>by
  obtain⟨_,_,_,_,R,_⟩:=H.Q.one i b Q;rcases a with rfl|rfl
  ·exact(H.F.offP R l).1 x
  ·exact(H.F.offP R l).1 B
 have a7:VW D5 (λj=>c j∨j=iS u.1) O:=⟨λj l=>by
  rcases l with l|rfl
  ·rw[K.block j (H.C.W.lt l) (P j l)];exact H.C.W.rows j l
  ·exact⟨_,_,_,D⟩,λ_ a=>a.elim,λ_ a=>a.elim,λ_ a=>a⟩
 have lt:∀j,A.has f j->j<iS u.1:=λj l=>H.F.lt (p8 l);have x6:∀g,Fx f=ni g->¬(g=A.1∨g=A.sm):=λg G a=>by
  obtain⟨cs,U⟩:=Kl S.st.row G;exact a.elim (Mj U S.V.1 Ad) λe=>D7 H.F.map U e.symm
 have I:Cx F y D5 c O:=H.C.kx K (H.C.W.ofK K P λ_ a=>a.elim) N;have p:∀i(b:SI),se[i]?=ni b->b.b<iS u.1:=λi b Q=>(H.F.ses.one i b Q).1.lt;refine⟨⟨a7,I.G,λj l=>l.elim (H.C.3 j) λe=>by rw[e];exact aF H.C.g8 C,I.sz,I.g8⟩,⟨⟨⟨by rwa[show({ d with last:=k }:ST).down=o9 from J],n _ (lt _ x) S.V.nv,S.V.ht.kx K (λa=>a.elim (Mj S.V.ht.blk S.V.1 Ad) λe=>D7 H.F.map S.V.ht.blk e.symm) (λa=>a.elim (D7 S.V.ht.map S.V.1) S.mbs),n _ (lt _ (n9 (n9 (n9 (p8 rfl))))) S.V.4,n _ (lt _ (n9 (n9 (n9 (n9 (p8 rfl)))))) S.V.nm,S.V.6,S.V.z2⟩,S.2,S.3,S.hw.keep (K.block _ (Bl.lt S.hw) (λa=>a.elim (D7 S.hw S.V.1) S.wsm)),S.5,S.6,K.get S.7 (λa=>a.elim (Mj S.7 S.V.1 Ad) λe=>D7 H.F.map S.7 e.symm),S.st.kx K (λa=>a.elim (Mj S.st.blk S.V.1 Ad) λe=>D7 H.F.map S.st.blk e.symm) x6,S.9,S.l1,n _ (lt _ (n9 (n9 (n9 (n9 (n9 (p8 rfl))))))) S.nw,n _ (lt _ B) S.12,n _ (ltOf S.7) S.nD,n _ (lt _ (n9 (p8 rfl))) S.nK,λg G=>n g (lt g (n9 (n9 (p8 G)))) (S.nf g G),S.gv,S.gt,S.gm,S.gw,S.gs,S.gD,S.gK,S.gf,S.wmb,S.wsm,S.mbs⟩,⟨λi b Q=>?_,λi w b q Q o t=>?_⟩,?_⟩,⟨λi b Q=>?_,λi w b q Q o t g G=>?_⟩,Li H.glob K λj l=>aF H.C.g8 (N j l)⟩
 ·rcases Nc Q with⟨L,Q⟩|⟨rfl,rfl⟩
  ·obtain⟨T,a8,aa⟩:=H.F.ses.one i b Q;have v:=(T.kx K (X _ ⟨i,b,Q,p8 iP⟩) λg G=>X _ ⟨i,b,Q,n9 G⟩).reCu (cu':=Le h u.1.size (um su 0 0,vp o9)) (I5 _ _ (by have:=p i b Q;omega));exact⟨⟨p8 T.inb,v.j,v.row,v.own,λg G=>n g (Cm T.own G) (T.ap g G),v.tl⟩,a8,aa⟩
  ·refine⟨⟨n9 iP,λ_ _ _=>PG _,⟨_,D,iP,iP,iP,iP,iP⟩,⟨by simp[A5,Lb],p8 ⟨iP,iP⟩⟩,λg e=>BB,λae V=>?_⟩,C,λg e=>BB⟩;rw[show(Lb k u.1.size).b=iS u.1 from iP,D]at V;cases V;rw[show(Lb k u.1.size).b=iS u.1 from iP,Jo];exact⟨iP,iP⟩
 ·rcases Nc Q with⟨L,Q⟩|⟨rfl,rfl⟩
  ·rcases Nc o with⟨W,o⟩|⟨rfl,rfl⟩
   ·exact H.F.ses.apart i w b q Q o t
   ·exact⟨by have:=p i b Q;show b.b≠iS u.1;omega,λg G e=>BB⟩
  ·rcases Nc o with⟨W,o⟩|⟨rfl,rfl⟩
   ·exact⟨by have:=p w q o;show iS u.1≠q.b;omega,λg G=>(by cases G)⟩
   ·exact absurd iP t
 ·rw[cP];simpa[E0,Lb] using a1
 ·rcases Nc Q with⟨L,Q⟩|⟨rfl,rfl⟩
  ·have t:b.b≠iS u.1:=by have:=p i b Q;omega
   rw[I5 _ _ t];obtain⟨q,af,a2,a3,Z,ad,M⟩:=H.Q.one i b Q;have Y:∀g,(h b.b).1.ownBlock=ni g->O.1[g]?=u.1[g]?:=λg G=>K.block g (Cm Z G) (E g ⟨i,b,Q,G⟩);refine⟨q,by rwa[fT Aa],a2,a3,Di Z Y,Ux (n:=0) (xs:=[]) ad Y,λg G=>⟨(M g G).1,n g (Cm Z G) (M g G).2.1,λs=>?_⟩⟩;rcases VQ s with a|a
   ·exact(M g G).2.2 a
   ·have:=Cm Z G;omega
  ·rw[show(Lb k u.1.size).b=iS u.1 from iP,Jo];exact⟨[],by rw[←ab,dK (aB _)];simp,I9,iP,⟨by simp[A5],p8 ⟨iP,iP⟩⟩,λg cc e=>BB,λg e=>BB⟩
 ·rcases Nc Q with⟨L,Q⟩|⟨rfl,rfl⟩
  ·rw[I5 _ _ (by have:=p i b Q;omega)]at G;rcases Nc o with⟨W,o⟩|⟨rfl,rfl⟩
   ·rw[I5 _ _ (by have:=p w q o;omega)];exact H.Q.apart i w b q Q o t g G
   ·rw[show(Lb k u.1.size).b=iS u.1 from iP,Jo];exact λe=>BB
  ·rw[show(Lb k u.1.size).b=iS u.1 from iP,Jo]at G;cases G
def Ab2(H:H0 h z F y c u A d f m se r)(s:u.1[g]?=ni (jf U q))(t:U[0]?=ni (iI A.1))(D:iR r=iR se)(J:d.down=o9)(E:(d.last=0/\k=1)∨(d.last=1/\k=2))(I:iR se<8)(v:∀p∈se,p.k≠k):Bg qz tu D5 N 24 #[iI g] u λx O=>x=my #[iL k,iL 0]/\H0 (Le h u.1.size (um su 0 0,vp o9)) z F y (λj=>c j∨j=iS u.1) O A { d with last:=k } f m (se++[Lb k u.1.size]) (r++[[]])/\Y u O (λj=>j=A.1∨j=A.sm)/\iS u.1<iS O.1:=by
 have G:(E0 (se.map λp=>(p.k,p.b))).length<8:=by simpa[E0] using I
 have S:∀p∈E0 (se.map λp=>(p.k,p.b)),p.1≠iL k:=λp Q=>by
  simp only[E0,cY,aZ]at Q;obtain⟨x,Z,rfl⟩:=Q;intro e;simp only[Function.comp,Value.int.injEq]at e;exact v x Z e.2
 have l:u.1[A.1]?=ni (jf (B9 A.D A.tb A.wm A.sm d.last o9) 95):=by rw[←J];exact H.F.1.V.1
 refine Bp (Pf (f:=24) Ae (X:=λj=>j=A.1∨j=A.sm) (R:=λx w=>x=my #[iL k,iL 0]/\iS u.1<iS w.1/\w.1[A.1]?=ni (jf (B9 A.D A.tb A.wm A.sm k o9) 95)/\w.1[iS u.1]?=ni (jf (newRow k) 84)/\Bl qz 3 w A.sm (E0 (se.map λp=>(p.k,p.b))++[(iL k,iI u.1.size)])) λw W o=>?_) ?_
 ·refine(XB w g A.1 k (λB=>Y w B (λi=>i=A.1∨i=A.sm)/\iS w.1<iS B.1/\B.1[A.1]?=ni (jf (B9 A.D A.tb A.wm A.sm k o9) 95)/\B.1[iS w.1]?=ni (jf (newRow k) 84)/\Bl qz 3 B A.sm (E0 (se.map λp=>(p.k,p.b))++[(iL k,iI w.1.size)])) (cellOf (j:=0) ((W g).trans s) t) ?_).mono λe B L=>?_
  ·exact Ab1 w A.1 A.D A.tb A.wm A.sm d.last k _ (by rw[W,l]) E (H.F.map.of_block (W _)) G S
  ·obtain⟨rfl,C,n,T,a,b⟩:=L;rw[o]at n a b;exact⟨⟨_,iP,iP,n,T,a,b⟩,C⟩
 ·rintro x O⟨K,w,W,o,rfl,n,T,a,b⟩;rw[W]at T a;exact⟨iP,H.connect D J K T a (b.of_block (W _).symm),K,Aa⟩
end
def Dn:Dv:=⟨λf=>if f=50 then [1,12] else if f=72 then [4,29,36,43,51,60,79,84,102,110,133,145] else if f=126 then [3,22] else if f=127 then [3,28,58] else if f=128 then [3] else if f=129 then [3,39,43,47,53] else if f=130 then [3] else if f=131 then [3,23,72,112] else if f=132 then [4,35,54] else if f=133 then [4,36,54,109,127] else if f=173 then [4,24,43] else if f=176 then [3,16] else if f=177 then [5,18,27,36] else if f=197 then [4,12] else [],ni 51⟩
def Ln:List pz:=Lw++[18,33,43,50,51,52,72,74,126,127,128,129,130,131,132,133,173,176,177,197]
def Alc:(Ln.all λf=>Ys E Ln Dn f)=tu:=Ab
def Aqm:=VD JY (λg G=>by
 obtain rfl:51=g:=by simpa[Dn] using G
 exact⟨Ae,Ae⟩) λf I=>cR.1 Alc f I
def Aoj{f}(I:f∈Ln)(b:Dn.at_ f = []){a:iB}{R:iH}(H:∀w:qg,(∀i:Nat,w.1[i]?=u.1[i]?)->iS w.1=iS u.1->Calls qz f a w λe B=>(∃x,e=xr x/\R x B)/\Y w B X):Bg qz tu D5 N f a u λx O=>Y u O X/\∃w,(∀i:Nat,w.1[i]?=O.1[i]?)/\iS w.1=iS O.1/\R x w:=by
 have W:=vw0 u;refine Bp (M5 (S:=UL Ln Dn) (Bs:=λ_=>False) Aqm (show f∈Ln from I) W.rows W.blind W.low (λd l=>by rw[b]at l;cases l) (R:=λe B=>∃v,Yb iO u v/\(∃x,e=xr x/\R x B)/\Y v B X) (λj v h=>?_) (λv h=>?_) (λv (s:Yb iO u v)=>(H v (λi=>s.same id) s.size).mono λe B h=>⟨v,s,h⟩)) ?_
 ·obtain⟨_,_,⟨x,e,_⟩,_⟩:=h;cases e
 ·obtain⟨_,_,⟨x,e,_⟩,_⟩:=h;cases e
 ·rintro x O⟨y,U,rfl,g,C,E,v,s,⟨z,e,c⟩,p⟩;cases e;exact⟨O3 s g C p E,U,λi=>Rx g C id,by rw[Bj,C.1],c⟩
section
variable {P:Program} {k:Bool} {J:hZ} {e:qg} {f:pz}
def Mc{K c}{b:iB}{d:w8→qg→Prop}(I:P.funcs[f]? = ni K)(s:(K.name == "runtime.NumGoroutine")=o9)(V:K.body=ni c)(o:Hj P k J N f c (λi a B=>(i=.normal∨i=.ret)∧a.defers = []∧∃v,(∀g,(results K a.tmps).run P (B.at g)=.ok v (B.at g))∧(∀g,∀i∈(results K a.tmps).events P (B.at g) #[],Fb J i)∧d v B) { tmps:=b++Array.replicate (K.ntmps - b.size) uw,defers:=[] } e):Bg P k J N f b e d:=by
 refine⟨K,c,I,s,V,λX cs L F=>?_⟩;have j:∀h(a:Act)B(v:w8),a.defers = []->(∀g,(results K a.tmps).run P _=.ok v _)->(∀g,∀i∈(results K a.tmps).events P _ #[],Fb J i)->d v B->EV P k J N (G { (base f).at a h with mode:=.returning } (X :: cs)) B:=λh a B v S Y l Q=>
  EV.step iP λz g=>⟨_,B.at g,Go.Pair.stepR_ret iP S iP I z (Y g) (l g),(F _ _ Q).at g⟩
 refine o _ [] _ iP iP λi m B⟨l,S,v,Y,r,Q⟩=>?_;rcases l with rfl|rfl
 ·exact EV.ctl (j [] m B v S Y r Q) iP iP λn H _=>stepG_end (a:=Bw n m)
 ·exact λh=>j h m B v S Y r Q
end
def QC(w)(s:hU):Jl (Lib.bytesCells w 5 s):=λx Z m=>by
 rcases cD.1 Z with h|h
 ·obtain⟨b,_,rfl⟩:=Array.mem_map.1 h;simp
 simp_all
section
variable {e:qg} {j:pz} {a:Act}
def Ls{l}(s:hU){x}(O:g[i]?=ni o)(r:yg o (gu g a.tmps)=tu)(T:o.op=.convert 9 37 x)(Z:a.eval x=x7 s)(V:Nx qz (env Lv) j o)(F:∀B c cs b,Y e B iO->B.1[iS e.1]?=ni (jf cs 5 b)->Jl cs->s.size<=c->Bytes B e.1.size 0 s.data.toList->opsV qz tu D5 N j g l Q (a.put o.dst (um (ni (iJ e.1.size)) s.size c)) B):opsV qz tu D5 N j g (i::l) Q a e:=by
 refine Dy (i:=i) (S:=env Lv) (vw0 e) O r V (A4 _ _) (X:=λ_=>False) (R:=λy U=>∃c cs b,y=um (ni (iJ e.1.size)) s.size c/\s.size<=c/\U.1[iS e.1]?=ni (jf cs 5 b)/\Jl cs/\Bytes U e.1.size 0 s.data.toList) (λ_ m=>m.elim) (λv q=>?_) ?_
 ·have d:=q.size;have M:=Lib.run_convert_string_bytes (P:=qz) v 9 37 5 s underlying9 underlying37 underlying5;refine⟨_,_,p8 ?_,⟨grownCap v s.size 0 5,_,_,by rw[←d],grownCap_ge _ _ _ _,by rw[←d];exact Lib.bytesWorld_at_new v 5 s,QC v s,λf h=>?_⟩,⟨?_,?_,?_,?_,λp E _=>Lib.bytesWorld_at_old v 5 s p E⟩⟩
  ·unfold execOp;rw[T];simp only[Z];simp[M,go_sem]
  ·rw[aY,←d,Lib.bytesWorld_cell v 5 s f HI]
   grind
  ·rfl
  ·rfl
  ·rfl
  ·rw[Lib.bytesWorld_size];omega
 ·rintro y B u K W k d⟨c,cs,b,rfl,M,D,n,t⟩;rw[k _ id]at D;exact F B c cs b K D n M λf h=>(Ce (k _ id).symm).trans (t f h)
def Aoh(I:iE)(c):Bg E tu D5 N 86 #[um I 0 c] u λq O=>q=my #[iL 0,iL 0,um su 0 0,iL 7]/\Y u O iO:=by
 apply Mc func86 Ac iP;simp only[ntmps86,na,Nat.reduceAdd,Nat.reduceSub];refine Rxn ?_;refine Ldr ?_;refine Vj2 ?_;refine Rxn ?_;refine V2g ?_;refine A3 (Pf (f:=144) (args:=#[um I 0 c]) Ae (X:=λ_=>False) (R:=λq _=>q=my #[um su 0 0,vp o9]) λe W f=>(Yl e I c).mono λa B Z=>⟨⟨_,Z.1,iP⟩,by rw[Z.2];exact Y.refl _ _⟩) iP Ac iP Af ?_;rintro q G⟨g,e,_,_,rfl⟩;refine Mtk ?_;refine Vj2 ?_;refine R5v ?_;refine Trb ?_
 iterate 3(refine Fi4 ?_)
 refine Ths ?_;refine E37 ?_;refine Rxn ?_;refine Ldr ?_;refine Vj2 ?_;refine Dm ⟨n9 iP,iP,my #[iL 0,iL 0,um su 0 0,iL 7],λd=>by simp[results,results86,go_sem],λd a b=>?_,iP,g⟩;simp[results,results86,go_sem]at b
structure Hs(e:qg)(D K:Nat):Prop where
 d:e.1[D]?=ni (jf #[iI K] 60)
 k:e.1[K]?=ni (jf #[um su 0 0,iL (-1)] 58)
def Hs.kx{X}(F:Hs u D K)(h:Y u O X)(C:¬X D)(J:¬X K):Hs O D K:=⟨h.get F.d C,h.get F.k J⟩
def Hs.kf(F:Hs u D K)(h:Y u O iO):=F.kx h id id
def Ajg(F:Hs u D K)(s:hU):Bg E tu D5 N 87 #[iI D,x7 s] u λy O=>y=x7 iN/\Y u O iO:=
 Bp (Pf Ae (R:=λy _=>y=x7 iN) λe W b=>(QK e D K (S (j:=0) ((W D).trans F.d) iP) (S (j:=0) ((W K).trans F.k) iP) s).mono λa B h=>⟨⟨_,h.1,iP⟩,by rw[h.2];exact Y.refl _ _⟩) λy O h=>⟨Ai,h.1⟩
def Aqh(F:Hs u D K)(s:hU):Bg E tu D5 N 60 #[iI D,x7 s] u λy O=>y=vp o9/\Y u O iO:=
 Bp (Pf Ae (R:=λy _=>y=vp o9) λe W b=>(XF e D K (S (j:=0) ((W D).trans F.d) iP) (S (j:=0) ((W K).trans F.k) iP) s).mono λa B h=>⟨⟨_,h.1,iP⟩,by rw[h.2];exact Y.refl _ _⟩) λy O h=>⟨Ai,h.1⟩
def Afh(F:Hs u D K):Bg E tu D5 N 21 #[iI D] u λy O=>y=vp o9/\Y u O iO:=
 Bp (Pf Ae (R:=λy _=>y=vp o9) λe W b=>(CM e D K (S (j:=0) ((W D).trans F.d) iP) (S (j:=1) ((W K).trans F.k) iP)).mono λa B h=>⟨⟨_,h.1,iP⟩,by rw[h.2];exact Y.refl _ _⟩) λy O h=>⟨Ai,h.1⟩
def Akv:Bg E tu D5 N 88 #[] u λx O=>Y u O iO/\∃b t,x=iI b/\Cj O b t 0 [(⟨#[47]⟩,J1)]/\iS u.1<=b/\iS u.1<=t:=
 Bp (Pf Ae (R:=λx e=>x=w9 (ni ⟨iS u.1+2,0,su⟩)/\Cj e (iS u.1+2) (iS u.1+1) 0 [(⟨#[47]⟩,J1)]) λe W a=>(Ahd e).mono λc B h=>⟨⟨_,h.1,by rw[a],Ai⟩,B5 h.2.2⟩) λx O h=>by
  obtain⟨K,e,W,a,rfl,V⟩:=h;exact⟨K,_,_,iP,⟨(W _).symm.trans V.blk,V.map.of_block (W _).symm⟩,Aa,Aa⟩
def Ao7(F:Hs u D K):Bg E tu D5 N 58 #[h9 #[iI D]] u λx O=>Y u O iO/\∃a t,x=iI a/\Cj O a t 0 [(⟨#[47]⟩,J1)]/\iS u.1<=a/\iS u.1<=t:=by
 apply Bh func58 Ac iP (R:=λv=>v.getD 2 uw) (λ_ _=>we Ac _ _ _) (λ_ _=>xrg Ac _ _);simp only[ntmps58,na,Nat.reduceAdd,Nat.reduceSub];refine Ia9 λZ H G=>?_;refine Ths ?_;refine Rxn ?_;refine V2g ?_;apply Bq (S (j:=0) G iP) (PG _);walk_nrm;apply A3 (Ajg (F.kf H) ⟨#[115,110,97,112,115,104,111,116]⟩) iP Ac iP Af;rintro x B⟨rfl,J⟩;walk_nrm;refine Ls iN iP Ac iP iP (B7 Ab) λE c cs f W q e M o=>?_;walk_nrm;apply A3 (Aoh (ni (iJ B.1.size)) c) iP Ac iP Ap;rintro x k⟨rfl,b⟩;walk_nrm
 iterate 9(refine V2g ?_)
 refine Vj2 ?_;refine M8j ?_;refine Qit ?_;refine Od4 ?_;refine Rxn ?_;refine A3 Akv iP Ac iP Af ?_;rintro x g⟨d,a,t,rfl,V,C,z⟩;walk_nrm;refine Ths ?_;have p:=((H.trans J).trans W).trans b;have s:=p.size;exact Dm ⟨n9 iP,iP,p.trans d,a,t,iP,V,Aa,Aa⟩
def QA{E I a d}(K:Y (Bb I (Cb E a P)) d X)(F:Df E a P)(y:Df E a (Bb E d))(k:∀j,E j->¬I j):Y (Bb I P) (Bb E d) X:=by
 have b:(Bb I (Cb E a P)).1.size=(Bb I P).1.size:=by rw[Dd,Dd,Bj]
 refine⟨K.os,K.tape,K.output,by rw[Dd (w:=d),←b];exact K.size,λj l Z=>?_⟩;by_cases V:E j
 ·have ⟨c,e,g,C,J⟩:=y.blank j V;have ⟨B,f,H,T,q⟩:=F.blank j V;rw[C]at T;cases T;rw[J,J9 (k j V),q]
 ·rw[J9 V,K.block j (b▸l) Z,Bu,Bu,By V]
def Ag4{R}{Post:PA y R}{cb U b H t a f}{m:iB}(E:Dw D5 v cb U b H t [] ob T a [])(aa:y<=iS v.1)(Y:y<=cb)(g:∀X,ob=ni X->y<=X)(L:t.ownBlock=su):Bg qz tu D5 (Jh Post) 46 #[w9 (ni (iK cb U)),Jd ob T 0 a,.func (.func f) #[] m] v λr e=>r=vp tu/\Ax v e (· = cb):=by
 have q:=ltOf E.blk;have s:∀k,ob=ni k->k<iS v.1:=λk h=>by
  obtain⟨_,_,o,c,fz,w,_⟩:=E.brow k h;exact ltOf w
 have W:∀k,k<iS v.1->ob≠ni k->¬Lq v.1.size ob t.ownBlock k:=by
  rintro k l a8(h|h|h|h|h|h)
  ·omega
  ·omega
  ·omega
  ·omega
  ·exact a8 h
  ·rw[L]at h;cases h
 have F:∀u O,Fi v cb U (Jd ob T 0 a) KK u->Fi v cb U (Jd ob T 0 a) KK O->∀k,k=iS v.1∨k=iS v.1+2∨ob=ni k∨t.ownBlock=ni k->(Bb (Lq v.1.size ob t.ownBlock) u).1[k]?=(Bb (Lq v.1.size ob t.ownBlock) O).1[k]?:=λu O h n k l=>by
  rw[Bu,Bu];rcases l with rfl|rfl|c|c
  ·rw[h.3,n.3]
  ·rw[h.b2,n.b2]
  ·obtain⟨_,_,o,e',fz,z,_⟩:=E.brow _ c;rw[h.K.get z id,n.K.get z id]
  ·rw[L]at c;cases c
 have A:∀k,y<=k->¬Post.TA k:=λk l V=>by have:=Post.lt k V;omega
 have nB:∀k,Post.TA k->¬Lq v.1.size ob t.ownBlock k:=λk V=>by
  have:=Post.lt k V;exact W k Aa λh=>A k (g k h) V
 refine Bp (Ai9 (A:=Post) (I:=λZ x=>Z = []/\∃P,Fi v cb U (Jd ob T 0 a) KK P/\Df Post.TA Post.base P/\Ax (Bb (Lq v.1.size ob t.ownBlock) (Cb Post.TA Post.base P)) x iO) E (A _ Y) (λX D=>A _ (g X D)) (λa7 G=>by rw[L]at G;cases G) (.done []) I9 ?_ ?_ (λu z p=>⟨iP,u,z,p,Ax.refl _ _⟩) ?_ ?_) ?_
 ·rintro Z x S⟨h,P,z,p,K⟩;exact⟨h,P,z,p,K.at S⟩
 ·rintro ab ad x⟨h,_⟩;cases h
 ·rintro u z _ x⟨_,P,i,d,K⟩;have N:(Bb (Lq v.1.size ob t.ownBlock) (Cb Post.TA Post.base P)).1.size=iS v.1+5:=by rw[Dd,Bj,i.size]
  refine⟨λk l=>?_,⟨H,(K.get ((Jt _ _).get (by rw[By (A _ Y)];exact i.K.get E.blk id) (W cb q λc=>(E.brow cb c).2.1 iP)) id),iP⟩,N▸K.size⟩
  ·have I:y<=k:=by
    rcases l with h|h|h|h
    ·omega
    ·omega
    ·exact g k h
    ·rw[L]at h;cases h
   rw[F u P z i k l];have a1:(Bb (Lq v.1.size ob t.ownBlock) P).1[k]?=(Bb (Lq v.1.size ob t.ownBlock) (Cb Post.TA Post.base P)).1[k]?:=by rw[Bu,Bu,By (A k I)]
   rw[a1];refine K.block k ?_ id;rw[N];rcases l with h|h|h|h
   ·omega
   ·omega
   ·have:=s k h;omega
   ·rw[L]at h;cases h
 ·rintro x⟨_,P,i,d,K⟩k V;have J:(Bb (Lq v.1.size ob t.ownBlock) (Cb Post.TA Post.base P)).1[k]?=Post.base.1[k]?:=by rw[J9 (nB k V),D3 d V]
  obtain⟨o,c,fz,C⟩:=Post.rows k V;rw[←J];exact K.block k (ltOf (J.trans C)) id
 ·rintro r e⟨rfl,a6,⟨_,P,i,d,K8⟩,Q,M⟩;have K:=QA K8 d Q nB;generalize Bb Post.TA a6=vA at K M;have N:(Bb (Lq v.1.size ob t.ownBlock) P).1.size=iS v.1+5:=by rw[Dd,i.size]
  have ax:iS v.1+5<=iS vA.1:=N▸K.size;have B:Ax v (Bb (Lq v.1.size ob t.ownBlock) P) (Lq v.1.size ob t.ownBlock):=(i.K.mono λ_ h=>h.elim).trans (Jt P _);refine⟨iP,M.K.os.trans (K.os.trans B.os),M.K.tape.trans (K.tape.trans B.tape),M.K.output.trans (K.output.trans B.output),aF (aF Aa ax) M.K.size,λk l a8=>?_⟩;by_cases j:ob=ni k
  ·exact M.b k j
  ·rw[M.K.block k Aa ?_,K.block k Aa id,B.block k l (W k l j)];rintro(h|h|h|h|h)
   ·exact a8 h
   ·omega
   ·omega
   ·exact j h
   ·rw[L]at h;cases h
def Aoi{R}{Post:PA y R}(l:y<=iS u.1)(F:Hs u D K)(d)(L:8<=iS u.1)(k:∀i,i<8->∃g b f,u.1[i]?=ni (jf g b f)):Bg qz tu D5 (Jh Post) 59 #[h9 #[iI D],iI d] u λW O=>W=my #[]/\Ax u O iO:=by
 apply Bh func59 Ac iP (R:=λ_=>my #[]) (λ_ _=>results_none Ac _ _ _) (λ_ _=>kmq Ac _ _);simp only[ntmps59,na,Nat.reduceAdd,Nat.reduceSub];refine Ia9 λZ H G=>?_;apply Dl (#[iI d]) 90;walk_nrm;have J:=Ba Z #[iI d] 90 iO;generalize Z.alloc (jf #[iI d] 90)=B at J⊢;refine Vj2 ?_;refine Rxn ?_;apply Dl (#[um su 0 0,vp o9]) 82;walk_nrm;have c:=Ba B #[um su 0 0,vp o9] 82 iO;have q:(B.alloc (jf #[um su 0 0,vp o9] 82)).1[iS B.1]?=ni (jf #[um su 0 0,vp o9] 82):=sx _ _;generalize B.alloc (jf #[um su 0 0,vp o9] 82)=z at c q⊢;refine Vj2 ?_;have a:=(H.trans J).trans c;refine Mwc ?_;apply Bq (S (j:=0) ((J.trans c).get G id) iP) (PG _);walk_nrm;apply A3 (Ajg (F.kf a) ⟨#[108,111,103]⟩) iP Ac iP Af;rintro W v⟨rfl,r⟩;walk_nrm;refine Ls iN iP Ac iP iP (B7 Ab) λm g cs f t A w M x=>?_;walk_nrm;refine V2g ?_;have C:=(a.trans r).trans t;have n:=H.size;have V:=J.size;have s:=c.size;have T:=r.size;have N:=ltOf q;have E:Dw D5 m B.1.size 0 82 #[um su 0 0,vp o9] (um su 0 0) [] (ni v.1.size) 0 g []:=by
  refine⟨Li k C λ_ h=>h.elim,(r.trans t).get q id,iP,iP,⟨by simp[A5],p8 ⟨iP,iP⟩⟩,λo I b=>(by cases b),Aa,λo b=>(by cases b),λX b=>?_,bE _,λh=>absurd iP h,⟨λ_ h=>h,λ_ h=>h.elim⟩⟩
  grind
 apply A3 (Ag4 (Post:=Post) (f:=90) E (by have:=C.size;omega) Aa (λX b=>Ai) iP) iP Ac iP Acb;rintro W e⟨rfl,p⟩;walk_nrm;exact Au ⟨p8 iP,iP,trivial,C.trans' p λj h Y=>Aa⟩
end
section
variable {Post:PA y F} {e:qg}
def EY{l u a}(x)(O:g[i]?=ni o)(W:yg o (gu g a.tmps)=tu)(V:Nx E (env Lv) u o)(Y:∀L:qg,(∀j:Nat,L.1[j]?=e.1[j]?)->Go.Pair.Yields E (execOp a.eval o) L x L)(F:∀B,Ax e B iO->opsV E tu D5 N u g l Q (a.put o.dst x) B):opsV E tu D5 N u g (i::l) Q a e:=by
 apply Dy (vw0 e) O W V (A4 _ _) (X:=λ_=>False) (R:=λy U=>y=x) (λ_ h=>h.elim) (λL c=>⟨x,L,Y L λj=>c.same id,iP,Ax.refl _ _⟩)
 grind
def Ad2{l u a}(b d){I}(D:e.1[b]?=ni (jf cs I))(O:g[i]?=ni o)(W:yg o (gu g a.tmps)=tu)(V:Nx E (env Lv) u o)(Y:∀L:qg,L.1[b]?=ni (jf cs I)->∃p,Go.Pair.Yields E (execOp a.eval o) L uw p/\B8 L p b d I)(F:∀B,Ax e B (· = b)->B.1[b]?=ni (jf d I)->opsV E tu D5 N u g l Q (a.put o.dst uw) B):opsV E tu D5 N u g (i::l) Q a e:=by
 refine Dy (i:=i) (vw0 e) O W V (A4 _ _) (X:=(· = b)) (R:=λy U=>y=uw/\U.1[b]?=ni (jf d I)) (λ_ h=>h.elim) (λL c=>?_) ?_
 ·have ⟨p,C,J⟩:=Y L ((c.same id).trans D);exact⟨uw,p,C,⟨iP,J.blk⟩,Ax.of_grown J.grown (p8 iP)⟩
 grind
def Wr{l u a}(b D){x y}(d:e.1[b]?=ni (jf #[w9 su] 89))(O:g[i]?=ni o)(W:yg o (gu g a.tmps)=tu)(V:Nx E (env Lv) u o)(T:o.op=.store 89 x y)(Z:a.eval x=iI b)(U:a.eval y=h9 #[iI D])(F:∀B,Y e B (· = b)->B.1[b]?=ni (jf #[iI D] 89)->opsV E tu D5 N u g l Q (a.put o.dst uw) B):opsV E tu D5 N u g (i::l) Q a e:=by
 refine Ad2 b #[w9 _] d O W V (λL c=>⟨L.setCell (iJ b) _,n9 ⟨?_,iP⟩,(B8.refl c).set 0 _⟩) F;have c0:=Vx 0 c;have f:=Dr (j:=0) c;unfold execOp;rw[T];simp only[Z,U];go_simp
def Mn{l u a}(b D){x t}(R:t=89∨t=60){S}(d:e.1[b]?=ni (jf #[iI D] S))(O:g[i]?=ni o)(W:yg o (gu g a.tmps)=tu)(V:Nx E (env Lv) u o)(T:o.op=.load t x)(Z:a.eval x=iI b)(F:∀B,Y e B iO->opsV E tu D5 N u g l Q (a.put o.dst (h9 #[iI D])) B):opsV E tu D5 N u g (i::l) Q a e:=by
 refine EY _ O W V (λL c=>p8 ?_) F;have c0:=Vx 0 ((c b).trans d);unfold execOp;rw[T];rcases R with rfl|rfl
 ·simp only[Z];go_simp
 ·simp only[Z];go_simp
def Aos(aa:y<=iS u.1)(F:Hs u D K)(h8:8<=iS u.1)(G:∀l,l<8->∃x m fz,u.1[l]?=ni (jf x m fz)):Bg qz tu D5 (Jh Post) 45 #[iI D] u λW O=>Ax u O iO/\∃s t,W=my #[h9 #[iI D],iI s,vp tu]/\Cj O s t 0 [(⟨#[47]⟩,J1)]/\iS u.1<=s/\iS u.1<=t:=by
 refine Mc func45 Ac iP ?_;simp only[ntmps45,na,Nat.reduceAdd,Nat.reduceSub];refine Rxn ?_;refine Dl (#[w9 su]) 89 ?_;walk_nrm;have d:=Ba u #[w9 su] 89 iO;have P:(u.alloc (jf #[w9 su] 89)).1[iS u.1]?=ni (jf #[w9 su] 89):=sx _ _;generalize u.alloc (jf #[w9 su] 89)=Z at d P⊢;refine Wad ?_;refine Vj2 ?_;refine Rxn ?_;refine Wad ?_;refine Azx λA J b2=>?_;intro E a q;walk_nrm;refine Vj2 ?_;have ab:=d.size;have af:=J.size;have l1:=ltOf P;have ah:=a.size;have b:Ax u E iO:=(d.trans J).trans' a λB e C=>Aa;have I:=F.kf b;have L:E.1[iS u.1]?=ni (jf #[w9 su] 89):=a.get (J.get P id) Aa;refine Rxn ?_;refine Mn Z.1.size D (p8 iP) q iP Ac (B7 Ab) iP Ac λai S=>?_;walk_nrm;refine A3 (Ao7 (I.kf S)) iP Ac iP Af ?_;rintro W u4⟨R,s,t,rfl,T,h,z⟩;walk_nrm;refine Ths ?_;have p:=S.trans R;have aj:=S.size;have g:=I.kf p;have o:=p.get q id;have ak:=b.size;have an:=p.size;refine Rxn ?_;refine Mn Z.1.size D (p8 iP) o iP Ac (B7 Ab) iP Ac λU H=>?_;walk_nrm;refine V2g ?_;have ao:=H.size;refine A3 (Aoi (Post:=Post) (by have:=((b.trans p).trans H).size;omega) (g.kf H) s Aa (Li G ((b.trans p).trans H) λ_ e=>e.elim)) iP Ac iP Af ?_;rintro W u5⟨rfl,V⟩;walk_nrm;refine Vj2 ?_;have j:=H.trans V;have w:=g.kf j;refine M8j ?_;refine Mwc ?_;refine A3 (Aqh w ⟨#[108,111,103]⟩) iP Ac iP Af ?_;rintro W v⟨rfl,r⟩;walk_nrm;have al:=w.kf r;refine V2g ?_
 iterate 4(refine Fi4 ?_)
 refine Trb ?_;refine A3 (Afh al) iP Ac iP Af ?_;rintro W ae⟨rfl,ad⟩;walk_nrm;refine Ths ?_;refine Ofi ?_;have n:=(j.trans r).trans ad;have Y:=n.get o id;have a1:=n.get (p.get L id) id;refine Rxn ?_;refine Mn Z.1.size D (p8 iP) Y iP Ac (B7 Ab) iP Ac λaq f=>?_;walk_nrm;refine V2g ?_;have a6:=f.get a1 id;refine Wr u.1.size D a6 iP Ac (B7 Ab) iP Ac Ac λQ X M=>?_;walk_nrm;refine Wad ?_;refine Vj2 ?_;have c:=((b.trans p).trans n).trans f;have a7:=T.kx (n.trans f) id id;have a8:=a7.kx X (show ¬s=iS u.1 by omega) (show ¬t=iS u.1 by omega);refine Dm ⟨n9 iP,iP,my #[h9 #[iI D],iI s,vp tu],λi=>?_,λi m N=>?_,c.trans' X λB e C=>Aa,s,t,iP,a8,Aa,Aa⟩
 ·have k:=Vx (w:=(Q.at i)) 0 M;simp[results,results45,go_sem,k]
 ·have k:=Vx (w:=(Q.at i)) 0 M;simp[results,results45,go_sem,k]at N;subst N;exact Cl (PG _)
structure GM(e:qg)(B svb D K tb mb wm sm:Nat):Prop where
 hv:e.1[svb]?=ni (jf (B9 D tb wm sm 0 o9) 95)
 ht:Cj e tb mb 0 [(⟨#[47]⟩,J1)]
 hw:Ld e wm []
 hm:Bl qz 3 e sm []
 F:Hs e D K
 gv:B<=svb
 gt:B<=tb
 gm:B<=mb
 gw:B<=wm
 gs:B<=sm
 wsm:wm≠sm
 wmb:wm≠mb
 mbs:mb≠sm
def GM.kf{B z a t}(h:GM u B z D K a t M sm)(b:Y u O iO):GM O B z D K a t M sm:=
 ⟨b.get h.1 id,h.ht.kx b id id,h.hw.keep (b.block _ (Bl.lt h.hw) id),h.hm.of_block (b.block _ h.hm.lt id),h.F.kf b,h.gv,h.gt,h.gm,h.gw,h.gs,h.wsm,h.wmb,h.mbs⟩
def ND{l u a}(O:g[i]?=ni o)(W:yg o (gu g a.tmps)=tu)(V:Nx E (env Lv) u o)(Y:∀L:qg,Go.Pair.Yields E (execOp a.eval o) L (.map (ni L.1.size)) (L.alloc (.map #[] 0)))(F:∀B,Ax e B iO->B.1[iS e.1]?=ni (.map #[] 0)->opsV E tu D5 N u g l Q (a.put o.dst (.map (ni e.1.size))) B):opsV E tu D5 N u g (i::l) Q a e:=by
 refine Dy (vw0 e) O W V (A4 _ _) (X:=λ_=>False) (R:=λy U=>y=.map (ni e.1.size)/\U.1[iS e.1]?=ni (.map #[] 0)) (λ_ h=>h.elim) (λL c=>?_) ?_
 ·exact K4y
 grind
def Aor(s:y<=iS u.1)(F:Hs u D K)(I:8<=iS u.1)(G:∀i,i<8->∃l g fz,u.1[i]?=ni (jf l g fz)):Bg qz tu D5 (Jh Post) 36 #[iI D] u λx O=>Ax u O iO/\∃z f t M sm,x=my #[iI z,iL 0]/\GM O u.1.size z D K f t M sm:=by
 refine Mc func36 Ac iP ?_;simp only[ntmps36,na,Nat.reduceAdd,Nat.reduceSub];refine Rxn ?_;refine Wad ?_;refine Vj2 ?_;refine R5v ?_
 iterate 5(refine V2g ?_)
 refine Mn D K (n9 iP) F.d iP Ac (B7 Ab) iP Ac λP B=>?_;walk_nrm;refine V2g ?_;refine Qq iP Ac λd=>⟨vp o9,P.at d,Aey (λn e _=>?_) (λn e=>?_),IU ?_ d⟩
 ·unfold Fv;simp[Bw]
  kernel_rfl
 ·unfold Fv;simp[Bw]
  kernel_rfl
 walk_nrm;refine Ths ?_;refine Ofi ?_;refine Rxn ?_;refine V2g ?_;have w:=B.size;refine A3 (Aos (Post:=Post) (by have:=B.size;omega) (F.kf B) Aa (Li G B λ_ h=>h.elim)) iP Ac iP Af ?_;rintro x Z⟨m,f,t,rfl,R,Q,T⟩;have H:=B.trans m;walk_nrm;refine Ldr ?_;refine Azx λA J b2=>?_;intro E a q;walk_nrm;refine Wad ?_;refine Vj2 ?_;have c:Ax Z E iO:=J.trans' a λV h W=>Aa;refine M8j ?_;refine Qit ?_;refine Zln ?_;refine Nqc ?_;refine Rxn ?_;refine Mn Z.1.size D (p8 iP) q iP Ac (B7 Ab) iP Ac λC S=>?_;walk_nrm;refine V2g ?_;refine ND iP Ac (B7 Ab) (λL=>p8 iP) ?_;intro k p b4;walk_nrm;refine ND iP Ac (B7 Ab) (λL=>p8 iP) ?_;intro v b o;walk_nrm;refine V2g ?_;refine Dl (B9 D f C.1.size k.1.size 0 o9) 95 ?_;walk_nrm;have r:=Ba v (B9 D f C.1.size k.1.size 0 o9) 95 iO;have j:(v.alloc (jf (B9 D f C.1.size k.1.size 0 o9) 95)).1[iS v.1]?=ni (jf (B9 D f C.1.size k.1.size 0 o9) 95):=sx _ _;generalize v.alloc (jf (B9 D f C.1.size k.1.size 0 o9) 95)=X at r j⊢;refine Wad ?_;refine Vj2 ?_;have U:=(((c.trans S).trans p).trans b).trans r;have Y:=S.size;have a1:=H.size;have a6:=c.size;have a7:=p.size;have a8:=b.size;have l4:=ltOf b4;have l5:=ltOf o;have lm:=R.map.lt;refine Dm ⟨n9 iP,iP,my #[iI v.1.size,iL 0],λd=>by simp[results,results36,go_sem],λd g N=>?_,H.trans U,_,f,t,iS C.1,iS k.1,iP,j,R.kx U id id,⟨⟨#[],0,(b.trans r).get b4 id,by simp[ny],iP⟩,Ad⟩,⟨⟨#[],0,r.get o id,by simp[ny],iP⟩,Ad⟩,F.kf (H.trans U),Aa,Aa,Aa,Aa,Aa,Aa,Aa,Aa⟩
 ·simp[results,results36,go_sem]at N
def Aqk(l:y<=iS u.1)(F:Hs u D K)(I:8<=iS u.1)(G:∀i,i<8->∃c e fz,u.1[i]?=ni (jf c e fz)):Bg E tu D5 (Jh Post) 23 #[iI D] u λx O=>Y u O iO/\∃a z b t M sm,x=my #[iI a,iL 0]/\O.1[a]?=ni (jf #[iI z] 78)/\iS u.1<=a/\GM O u.1.size z D K b t M sm:=by
 apply Mc func23 Ac iP;simp only[ntmps23,na,Nat.reduceAdd,Nat.reduceSub];refine Rxn ?_;refine Wad ?_;refine Vj2 ?_;refine Rxn ?_;refine V2g ?_;refine A3 (Aor (Post:=Post) l F I G) iP Ac iP Af ?_;rintro x v⟨H,z,b,t,M,sm,rfl,S⟩;refine Mtk ?_;refine Vj2 ?_;refine M8j ?_;refine Qit ?_;refine Zln ?_;refine Nqc ?_;refine Rxn ?_;refine Wad ?_;refine Dl (#[iI z]) 78 ?_;walk_nrm;have J:=Ba v #[iI z] 78 iO;have P:(v.alloc (jf #[iI z] 78)).1[iS v.1]?=ni (jf #[iI z] 78):=sx _ _;generalize v.alloc (jf #[iI z] 78)=B at J P⊢;refine Wad ?_;refine Vj2 ?_;refine Dm ⟨n9 iP,iP,my #[iI v.1.size,iL 0],λd=>by simp[results,results23,go_sem],λd e N=>?_,H.trans J,_,z,b,t,M,sm,iP,P,H.size,S.kf J⟩;simp[results,results23,go_sem]at N
end
def σ0:ST:=⟨0,o9,0,[(⟨#[47]⟩,J1)],[],-1,[]⟩
structure Fu(u u')(F F':hY):Prop where
 K:Ax u u' F
 new:∀j,F' j->F j∨iS u.1<=j
def Fu.trans{U F R a}(h:Fu u O F R)(k:Fu O U R a):Fu u U F a:=
 ⟨h.K.trans' k.K λj l b=>(h.new j l).elim id λe=>Aa,λj l=>(k.new j l).elim (h.new j) λe=>n9 (aF h.K.size e)⟩
def Fu.kf{F}(K:Y u O iO):Fu u O F F:=⟨K.mono λ_ h=>h.elim,λ_ h=>p8 h⟩
def Se.moved{L X:Nat->Z×Z}{v C se a}(h:Se u O A L X v C se a):Fu u O (Hy L A v se) (Hy X A C a):=⟨h.K,h.new⟩
def Apj:Pm 0 [(⟨#[47]⟩,J1)]:=by
 refine⟨Ae,Ae,Ae,λq f=>?_,λq f=>?_⟩
 ·simp only[fC]at f;subst f;exact⟨Ae,Ab⟩
 grind
section
variable {B a tb t:Nat}
def GM.fuld(b:GM u B a D K tb t M sm)(C:Cx F y D5 c u)(G:∀i,i<8->∃d e fz,u.1[i]?=ni (jf d e fz))(l:z (Hw ⟨#[47]⟩)=tu)(o:y<=B)(g:∀j,c j->j<B)(L:y<=D)(v:y<=K)(N:¬c D)(W:¬c K):H0 h z F y c u ⟨a,D,K,tb,t,M,sm⟩ σ0 su 0 [] []:=by
 have n:∀j,B<=j->¬c j:=λj r k=>by have:=g j k;omega
 have s:=b.gv;have w:=b.gt;have x:=b.gm;have Z:=b.gw;have A:=b.gs;refine⟨C,⟨⟨⟨b.1,n _ b.gv,b.ht,n _ b.gt,n _ b.gm,Ae,Ae⟩,Apj,⟨λq f=>?_⟩,b.hw,gW,λH E=>(by cases E),b.F.d,⟨b.F.k,⟨by simp[Es,σ0],p8 ⟨iP,iP⟩⟩⟩,Ae,Ae,n _ b.gw,n _ b.gs,N,W,λm G=>(by cases G),by show y<=a;omega,by show y<=tb;omega,by show y<=t;omega,by show y<=M;omega,by show y<=sm;omega,L,v,λm G=>(by cases G),b.wmb,b.wsm,b.mbs⟩,⟨λi p Q=>(by simp at Q),λi j p q Q=>(by simp at Q)⟩,b.hm⟩,⟨λi p Q=>(by simp at Q),λi j p q Q=>(by simp at Q)⟩,G⟩;simp only[σ0,fC]at f;subst f;have e:Hw ⟨#[47]⟩=⟨#[]⟩:=Ab;exact⟨Ae,l,Ae⟩
def GM.foot(b:GM u B a D K tb t M sm)(l:Hy h ⟨a,D,K,tb,t,M,sm⟩ su [] j):j=K∨B<=j:=by
 rcases l with(rfl|rfl|l|rfl|rfl|rfl|rfl)|⟨i,p,Q,_⟩|⟨i,p,Q,_⟩
 ·exact n9 b.gv
 ·exact p8 iP
 ·cases l
 ·exact n9 b.gt
 ·exact n9 b.gm
 ·exact n9 b.gw
 ·exact n9 b.gs
 ·simp at Q
 ·simp at Q
end
def MS{a:Type}(l b)(f:a->a):(l++[b]).modify (iR l) f=l++[f b]:=by
 induction l with
 |nil=>rfl
 |cons x l O=>simpa using O
def OO{a:Type}(l)(c b:a):(l++[c]).set (iR l) b=l++[b]:=by
 grind
section
variable {o:Nat->Z×Z} {Post:PA y F} {e:qg} {se:List SI} {g:Nat} {q:mi} {j:pz} {a:Act}
def YS{g l o}(ob)(X:iD)(O:g[i]?=ni o)(W:yg o (gu g a.tmps)=tu)(V:Nx E (env Lv) j o)(Y:∀L:qg,Go.Pair.Yields E (execOp a.eval o) L (X L.1.size) (L.alloc ob))(F:∀B,Ax e B iO->B.1[iS e.1]?=ni ob->opsV E tu D5 N j g l Q (a.put o.dst (X e.1.size)) B):opsV E tu D5 N j g (i::l) Q a e:=by
 refine Dy (vw0 e) O W V (A4 _ _) (X:=λ_=>False) (R:=λy U=>y=X e.1.size/\U.1[iS e.1]?=ni ob) (λ_ h=>h.elim) (λL c=>?_) ?_
 ·exact K4y
 grind
def Qr{g l o}(t)(b:hQ){x}(d:e.ownsRow 0 5 1 t (iR b) (A5 b))(O:g[i]?=ni o)(W:yg o (gu g a.tmps)=tu)(V:Nx E (env Lv) j o)(T:o.op=.convert 37 9 x)(Z:a.eval x=t)(F:∀B,Y e B iO->opsV E tu D5 N j g l Q (a.put o.dst (x7 ⟨b.toArray⟩)) B):opsV E tu D5 N j g (i::l) Q a e:=by
 refine EY (x7 ⟨b.toArray⟩) O W V (λL c=>p8 ?_) F;unfold execOp;rw[T];simp only[Z];simp[(Uq (Di d λf _=>c f)),go_sem]
def GD.mod(h:GD l)(i)(f:AS->AS)(I:∀a∈l,(f a).k=a.k/\(f a).lo.length<=9000000000):GD (l.modify i f):=by
 have L:∀p∈l.modify i f,∃a∈l,p=a∨p=f a:=λp Q=>by
  obtain⟨j,c⟩:=dP.1 Q
  grind
 refine⟨by rw[List.length_modify];exact h.h8,?_,λp Q=>?_,λp Q=>?_⟩
 ·have:(l.modify i f).map AS.k=l.map AS.k:=by
   apply bK
   grind
  rw[this];exact h.ord
 ·obtain⟨a,d,rfl|rfl⟩:=L p Q
  ·exact h.kw _ d
  ·rw[(I a d).1];exact h.kw _ d
 ·obtain⟨a,d,rfl|rfl⟩:=L p Q
  ·exact h.lo _ d
  ·exact(I a d).2
def LH{a G V c}(M:Gj z i [c] a l G V){b}(d:l[i]?=ni b)(p:b.en=o9)(J:a.down=o9)(E:b.ver=0):G=a/\V=Nf l i:=by
 cases M with
 |cons D M=>
  cases M;have ⟨e,Q,D⟩:=D
  grind
def QX{a G V}{c:hQ}(h:FD z i [c] o9 a l G V){b}(e:l[i]?=ni b)(p:b.en=o9)(J:a.down=o9)(E:b.ver=0):G=a/\V=Nf l i:=by
 have ⟨g,B,M,f⟩:=h;cases M with
 |cons D M=>
  cases M;have ⟨m,Q,D⟩:=D;rw[e]at Q;obtain rfl:=aA Q;rw[aL (by rw[p,J];simp),aJ E]at D;have ⟨_,_,f⟩:=f
  grind
def LX{N j}(D:∀(i:Nat)p,se[i]?=ni p->p.b≠N)(a:Hy (Le h N (um su 0 0,vp o9)) A f (se++[Lb k N]) j):Hy h A f se j∨j=N:=by
 rcases a with a|a|a
 ·exact p8 (p8 a)
 ·exact(VQ a).imp (λa=>n9 (p8 a)) id
 ·obtain⟨i,p,Q,G⟩:=a;rcases Nc Q with⟨_,Q⟩|⟨_,rfl⟩
  ·rw[I5 _ _ (D i p Q)]at G;exact p8 (n9 (n9 ⟨i,p,Q,G⟩))
  ·rw[show(Lb k N).b=N from iP,Jo]at G;cases G
def Tn:hQ:=[0,0,0,4,0,0,0,1]
def ON(al:Im z F)(X:H0 h z F y c u A d f m se r)(s:u.1[g]?=ni (jf U q))(P:U[0]?=ni (iI A.1))(T:¬Hy h A f se g)(D:iR r=iR se)(J:d.down=o9)(Y:(d.last=0/\k=1)∨(d.last=1/\k=2))(h8:iR se<8)(an:∀p∈se,p.k≠k)(Q:GD (se.map SI.abs++[⟨k,0,o9,[]⟩]))(ao:∀a∈se.map SI.abs,iR a.lo<=8000000000):Bg qz tu D5 (Jh Post) 8 #[iI g] u λC O=>C=iL k/\∃o a1 aq e,H0 o z F y (λi=>c i∨i=iS u.1) O A { d with last:=k } a1 aq e (r++[[]])/\Fu u O (Hy h A f se) (Hy o A a1 e)/\e.map SI.abs=se.map SI.abs++[⟨k,1,o9,[]⟩]/\(e.map λp=>(p.k,p.b))=(se.map λp=>(p.k,p.b))++[(k,iS u.1)]:=by
 have b7:zv qz 3 (iL k)=ni (pkj yi k):=(Q.kw ⟨k,0,o9,[]⟩ Ad).1;refine Bh func8 Ac iP (R:=λv=>v.getD 2 uw) (λ_ _=>we Ac _ _ _) (λ_ _=>xrg Ac _ _) ?_;simp only[ntmps8,na,Nat.reduceAdd,Nat.reduceSub];refine Rxn ?_;refine Ths ?_;refine Rxn ?_;refine V2g ?_;refine A3 (Ab2 (k:=k) X s P D J Y h8 an) iP Ac iP Af ?_;rintro C Z⟨rfl,H,w,x⟩;refine Mtk ?_;refine Vj2 ?_;have ae:Z.1[g]?=ni (jf U q):=w.get s (by
  rintro(l|l)
  ·exact T (p8 (p8 l))
  ·exact T (p8 (n9 (n9 (n9 (n9 (n9 (n9 l)))))))
  )
 have a6:(se++[Lb k u.1.size])[iR se]?=ni (Lb k u.1.size):=Ad;have ar:(r++[[]])[iR se]?=ni ([]:hQ):=by rw[←D];simp
 have R:(se++[Lb k u.1.size]).map SI.abs=se.map SI.abs++[⟨k,0,o9,[]⟩]:=by simp[Lb,SI.abs]
 refine Rxn ?_;refine Wad ?_;refine YS (jf #[pq zi 0,pq zi 0,pq zi 0,pq zi 4,pq zi 0,pq zi 0,pq zi 0,pq zi 1] 5) (λau=>um (ni (iJ au)) 8 8) iP Ac (B7 Ab) (λbg=>p8 (by first|rfl|(go_simp;done)|(go_simp;rfl))) ?_;intro bh av aw;walk_nrm;have a7:Jl #[pq zi 0,pq zi 0,pq zi 0,pq zi 4,pq zi 0,pq zi 0,pq zi 0,pq zi 1]:=λC hx bj=>by
  simp at hx;rcases hx with rfl|rfl|rfl|rfl<;>simp
 refine NF 8 8 aw Ad a7 iP Ac iP Ac λu2 ax b2=>?_;have I:Ax Z u2 iO:=av.trans' ax λi b Ig=>Aa;walk_nrm;have H2:=H.kf I;have nw:∀i,iS Z.1<=i->¬Hy (Le h u.1.size (um su 0 0,vp o9)) A f (se++[Lb k u.1.size]) i:=λi hj b=>by have:=H.lt b;omega
 have B2:PC y (λi=>c i∨i=iS u.1) u2 (Hy (Le h u.1.size (um su 0 0,vp o9)) A f (se++[Lb k u.1.size])) A.D (ni Z.1.size) 0 8 Tn:=by
  refine⟨λbk l=>?_,Ae,λ_=>⟨_,iP,λi hj=>?_⟩⟩
  ·obtain rfl:=aA l;exact⟨H.C.sz,λB=>by have:=H.C.W.lt B;omega,nw _ (aB _),λl=>by have:=ltOf H.F.1.7;omega,_,_,b2,a7⟩
  ·rw[Cg b2,aY];have ay:i<8:=hj
   match i,ay with
   |0,_=>rfl
   |1,_=>rfl
   |2,_=>rfl
   |3,_=>rfl
   |4,_=>rfl
   |5,_=>rfl
   |6,_=>rfl
   |7,_=>rfl
 have S:((se++[Lb k u.1.size]).map SI.abs)[iR se]?=ni ⟨k,0,o9,[]⟩:=by rw[R];simp
 have az:∀K E,Gj z (iR se) [[0,0,0,1]] { d with last:=k } ((se++[Lb k u.1.size]).map SI.abs) K E->GD E:=λK E M=>by
  obtain⟨_,rfl⟩:=LH M S iP J iP;rw[R];refine Q.mod _ _ λa L=>⟨iP,?_⟩;rcases bX.1 L with b|b
  ·have:=ao a b;simp;omega
  ·simp only[fC]at b;subst b
   show 8<=9000000000
   decide
 refine A3 (Aci (Post:=Post) (p0:=Lb k u.1.size) (bs:=Tn) al H2 (I.get ae id) P a6 b7 J iP ar B2 QI ?_ λK E M=>⟨az K E M,λl=>by cases l⟩) iP Ac iP Acb ?_
 ·intro done aj ak G l' j M
  match done,j with
  |[],j=>
   cases M;obtain⟨rfl,_⟩:=List.cons.inj j;refine⟨Ae,by rw[R];exact Q,λa L _ _=>?_⟩;rw[S]at L;obtain rfl:=aA L;exact p8 ⟨iP,iP⟩
  |[_],j=>simp at j
  |_::_::_,j=>simp at j
 rintro C u3⟨a8,σ3,aa,b5,t,rfl,H3,N,hR⟩;obtain⟨rfl,b6⟩:=QX hR S iP J iP;have b8:UK ({ d with last:=k }:ST).down=0:=by rw[show({ d with last:=k }:ST).down=o9 from J];rfl
 rw[b8];have ab:t.map SI.abs=se.map SI.abs++[⟨k,1,o9,Tn⟩]:=by
  rw[b6,R];unfold Nf;have:=MS (se.map SI.abs) (⟨k,0,o9,[]⟩:AS) λa=>{ a with ver:=1,lo:=a.lo++[0,0,0,4,0,0,0,1] };rw[bU]at this;rw[this]
  rfl
 obtain⟨n,ad,bm,af⟩:=Z2 N.kb a6;have V:n.abs=⟨k,1,o9,Tn⟩:=by
  have:(t.map SI.abs)[iR se]?=ni n.abs:=by rw[aT,ad];rfl
  rw[ab]at this;simpa using this.symm
 have b9:n.lo=Tn:=aK AS.lo V;have ba:(r++[[]]).set (iR se) (partOf (t.map SI.abs) (iR se) [])=r++[[]]:=by
  have:partOf (t.map SI.abs) (iR se) [] = []:=by unfold partOf;split<;>rfl
  rw[this,←D];exact OO _ _ _
 rw[ba]at H3;walk_nrm;refine Ths ?_;have ah:∀(W:Nat)(p:SI),se[W]?=ni p->p.b≠iS u.1:=λW p hp=>by have:=(X.F.ses.one W p hp).1.lt;omega
 have bb:u3.1[g]?=ni (jf U q):=N.K.get (I.get ae id) λb=>(LX ah b).elim T λl=>by have:=ltOf s;omega
 have ag:zv qz 3 (iL n.k)=ni (pkj yi n.k):=by rw[af];exact b7
 refine Rxn ?_;refine Wad ?_;refine A3 (Ajk H3 bb P ad ag) iP Ac iP (by walk_nrm;rw[af];try rfl) ?_;rintro C u4⟨rfl,H4,G4,ai⟩;refine Mtk ?_;refine Vj2 ?_;refine R5v ?_
 iterate 12(refine V2g ?_)
 rw[b9]at ai;refine Qr n.6 Tn ai iP Ac (B7 Ab) iP Ac λu5 K5=>?_;walk_nrm;have bc:Fu u u5 (Hy h A f se) (Hy a8 A aa (t.set (iR se) n.taken)):=by
  refine(((Fu.trans ⟨w.mono λi b=>?_,λi b=>(LX ah b).imp id λl=>Aa⟩ (Fu.kf I)).trans N.moved).trans G4.moved).trans (Fu.kf K5);rcases b with b|b
  ·exact p8 (p8 b)
  ·exact p8 (n9 (n9 (n9 (n9 (n9 (n9 b))))))
 have bd:(t.set (iR se) n.taken).map SI.abs=se.map SI.abs++[⟨k,1,o9,[]⟩]:=by
  rw[fW,ab,show n.taken.abs=⟨k,1,o9,[]⟩ by
   have e1:n.k=k:=aK AS.k V;have e2:n.ver=1:=aK AS.ver V;have e3:n.en=o9:=aK AS.en V;simp[SI.taken,SI.abs,e1,e2,e3]]
  have:=OO (se.map SI.abs) (⟨k,1,o9,Tn⟩:AS) ⟨k,1,o9,[]⟩;rw[bU]at this;exact this
 have bf:((t.set (iR se) n.taken).map λp=>(p.k,p.b))=(se.map λp=>(p.k,p.b))++[(k,iS u.1)]:=by
  rw[G4.kb,N.kb];simp[Lb]
 have H5:=H4.kf K5;refine Kbk ?_;refine Trb ?_;have bn:decide (k<1)=o9:=by
  rcases Y with⟨_,rfl⟩|⟨_,rfl⟩<;>decide
 refine Kbk ?_;refine Ths ?_;refine Ofi ?_;refine Rxn ?_;refine Wad ?_;refine Vj2 ?_;exact Dm ⟨n9 iP,iP,iP,a8,aa,b5,_,H5,bc,bd,bf⟩
end
structure Jk(G l l'):Prop where
 len:iR l'=iR l
 one:∀(j:Nat)(a:AS),l[j]?=ni a->∃b:hQ,l'[j]?=ni { a with lo:=a.lo++b }/\iR b<=G
def Jk.refl(G l):Jk G l l:=⟨iP,λj a h=>⟨[],by rw[h,bW],bE _⟩⟩
def Jk.trans{G V e}(h:Jk G l V)(k:Jk H V e):Jk (G+H) l e:=
 ⟨k.len.trans h.len,λj a d=>by
  have ⟨b,C,J⟩:=h.one j a d;have ⟨c,T,q⟩:=k.one j _ C
  grind⟩
def Jk.mono{G V}(h:Jk G l V)(p:G<=H):Jk H l V:=⟨h.len,λj a d=>let⟨b,C,J⟩:=h.one j a d;⟨b,C,aF J p⟩⟩
def Mh(l i){b:hQ}{G}(D:iR b<=G):Jk G l (Hi l i b):=
 ⟨by unfold Hi;rw[List.length_modify],λj a d=>by
  unfold Hi;rw[eQ,d];by_cases e:i=j
  ·grind
  ·exact⟨[],by simp[e],bE _⟩⟩
def XY{B:gY}{G}(K:iR B=iR l)(D:∀(i:Nat)(b:hQ),B[i]?=ni b->iR b<=G):Jk G l (Px l B):=
 ⟨by unfold Px;rw[List.length_zipWith];omega,λj a d=>by
  obtain⟨b,c⟩:∃b,B[j]?=ni b:=⟨_,aG Ai⟩;refine⟨b,?_,D j b c⟩;unfold Px
  grind⟩
def Jk.aok{G V}(h:Jk G l V)(P:GD l)(Y:∀a∈l,iR a.lo+G<=9000000000):GD V:=by
 have c:∀p∈V,∃a∈l,∃b,p = { a with lo:=a.lo++b }/\iR b<=G:=λp Q=>by
  obtain⟨j,f⟩:=dP.1 Q;have F:j<iR l:=by have:=(aD.1 f).1;have:=h.len;omega
  obtain⟨b,C,J⟩:=h.one j l[j] (aG F)
  grind
 have E:V.map AS.k=l.map AS.k:=by
  apply bK;intro j;by_cases F:j<iR l
  ·obtain⟨b,C,_⟩:=h.one j l[j] (aG F)
   grind
  ·have:=h.len
   grind
 refine⟨by rw[h.len];exact P.h8,by rw[E];exact P.ord,λp Q=>?_,λp Q=>?_⟩
 ·obtain⟨a,e,b,rfl,_⟩:=c p Q;exact P.kw a e
 grind
def Aar{c G V}{d:hQ}{r}(h:FD c i [d] o9 a l G V){b}(e:l[i]?=ni b)(p:b.en=o9)(J:a.down=o9)(E:b.ver=1)(Y:Hc c d=ni r):Hn r i a l G V:=by
 have ⟨g,B,M,f⟩:=h;cases M with
 |cons D M=>
  cases M;have ⟨m,Q,D⟩:=D;rw[e]at Q;obtain rfl:=aA Q;have ⟨_,_,f⟩:=f
  grind
def QE{c G V d r}(M:Gj c i [d] a l G V){b}(e:l[i]?=ni b)(p:b.en=o9)(J:a.down=o9)(E:b.ver=1)(Y:Hc c d=ni r):Hn r i a l G V:=by
 cases M with
 |cons D M=>
  cases M;have ⟨f,Q,D⟩:=D
  grind
section
variable {num:Int} {r:List (hU×Nd)}
def YJ(T:Pm num r)(N:TrN z r)(kind m a p):(AA kind m a (Fy r p).1 (Fy r p).2 (kids p r)).length<=1100:=by
 unfold AA;split
 ·rename_i F;have y:=(N.nm _ (EC F)).2.2;have Z:((Fy r p).1.data.data.toList).length=(Fy r p).1.data.size:=iP;have E:(kids p r).length<=32:=aF Z5 T.len;have R:=VX (L:=kids p r) λs c=>by
   obtain⟨q,f,rfl⟩:=MD c;exact(N.nm q f).1
  rw[Uu];unfold AB;split
  ·simp only[aM,be_length,Z];simp only at y;omega
  ·exact Heq
 ·rw[N3];omega
def Abi(kind m z){p}(Q:p.size<=200)(b):(CP (KS kind m z p b)).length<=300:=by
 have Z:(p.data.toList).length=p.size:=iP;rw[Uu];unfold KS;split
 ·simp only[aM,be_length,Z];omega
 ·exact Heq
def CB{r G V}(h:Hn r i a l G V)(T:Pm a.num a.ns)(N:TrN z a.ns)(E:1<=r.kind)(Q:r.kind<=6->Y4 z r.p):Jk 2000 l V:=by
 unfold Hn at h;split at h
 ·have P:=Q Aa;rcases h with⟨_,_,rfl⟩|⟨_,b,u,p,_,⟨_,_,rfl⟩|⟨_,_,rfl⟩⟩
  ·exact Mh l i (by rw[N3];omega)
  ·exact .refl _ _
  ·refine(Jk.trans (G:=700) (XY ?_ λj c d=>?_) (Mh _ i (Abi _ _ _ P.ps _))).mono Aa
   ·rw[Q9,bU]
   ·exact Q8 (λb=>by
     cases b
     ·exact P.ps
     ·exact P.par.1) (TS Aa) d
 ·split at h
  ·obtain⟨_,rfl⟩:=h;exact Mh l i (aF (YJ T N _ _ _ _) Aa)
  ·obtain⟨_,rfl⟩:=h;apply Mh l i;rw[Uu];simp only[aM,be_length];omega
end
section
variable {o:Nat->Z×Z} {Post:PA y F} {e:qg}
structure Hand(h:Nat->w8×w8)(z F y c u)(Is:Nat)(A)(σ)(fa fc se qs):Prop where
 H:H0 h z F y c u A σ fa fc se qs
 os:u.1[Is]?=ni (jf #[iI A.1] 78)
 of:¬Hy h A fa se Is
def Ahi:zv E 3 (iL 1)=ni (pkj yi 1)/\(pkj yi 1).wf=tu:=⟨Ab,Ae⟩
def Ala:zv E 3 (iL 2)=ni (pkj yi 2)/\(pkj yi 2).wf=tu:=⟨Ab,Ae⟩
def Aie(U:Im z F)(C:Cx F y D5 c u)(G:∀i,i<8->∃n m fz,u.1[i]?=ni (jf n m fz))(r:Hs u D K)(L:y<=D)(v:y<=K)(N:¬c D)(W:¬c K)(B:z (Hw ⟨#[47]⟩)=tu):Bg qz tu D5 (Jh Post) 7 #[iI D] u λb O=>∃P A o f g e d,b=my #[iI P,iL 1]/\Hand o z F y (λj=>c j∨j=d) O P A { σ0 with last:=1 } f g e [[]]/\A.D=D/\A.K=K/\iS u.1<=P/\iS u.1<=d/\(∀j,Hy o A f e j->j=K∨iS u.1<=j)/\Ax u O (· = K)/\e.map SI.abs = [⟨1,1,o9,[]⟩]/\(e.map λp=>(p.k,p.b)) = [(1,d)]:=by
 apply Mc func7 Ac iP;simp only[ntmps7,na,Nat.reduceAdd,Nat.reduceSub];refine Rxn ?_;refine Wad ?_;refine Vj2 ?_;refine Rxn ?_;refine V2g ?_;refine A3 (Aqk (Post:=Post) C.sz r (aF C.g8 C.sz) G) iP Ac iP Af ?_;rintro b Z⟨H,P,k,tb,t,M,sm,rfl,s,w,x⟩;refine Mtk ?_;refine Vj2 ?_;refine R5v ?_
 iterate 6(refine V2g ?_)
 refine Zln ?_;refine Nqc ?_;have q:H0 (λ_=>(um su 0 0,vp o9)) z F y c Z ⟨k,D,K,tb,t,M,sm⟩ σ0 su 0 [] []:=x.fuld (C.kx H (C.W.ofK H (λ_ _ h=>h) λ_ h=>h.elim) λ_ h=>h.elim) (Li G H λ_ h=>h.elim) B C.sz (λj l=>C.W.lt l) L v N W;have T:¬Hy (λ_=>(um su 0 0,vp o9)) ⟨k,D,K,tb,t,M,sm⟩ su [] P:=by
  rintro(h|h|⟨i,p,Q,_⟩)
  ·exact q.F.off s iP (p8 h)
  ·exact q.F.off s iP (n9 h)
  ·simp at Q
 have E:GD (([]:List SI).map SI.abs++[⟨1,0,o9,[]⟩]):=by
  refine⟨Ad,Ad,λp Q=>?_,λp Q=>?_⟩
  ·simp at Q;subst Q;exact Ahi
  ·simp at Q;subst Q;exact bE _
 refine Rxn ?_;refine V2g ?_;refine A3 (ON (Post:=Post) (k:=1) U q s iP T iP iP (p8 ⟨iP,iP⟩) Ad (λp Q=>by simp at Q) E (λa1 I=>by simp at I)) iP Ac iP Af ?_;rintro b u2⟨rfl,o,f,g,e,J,a,R,S⟩;walk_nrm;refine Ths ?_;refine M8j ?_;refine Qit ?_;refine Zln ?_;refine Nqc ?_;refine Rxn ?_;refine Ldr ?_;refine Vj2 ?_;have ax:=ltOf s;have V:∀j,Hy o ⟨k,D,K,tb,t,M,sm⟩ f e j->j=K∨iS u.1<=j:=λj l=>by
  rcases a.new j l with h|h
  ·exact x.foot h
  ·exact n9 Aa
 refine Dm ⟨n9 iP,iP,my #[iI P,iL 1],λX=>by simp[results,results7,go_sem],λX m Y=>?_,P,_,o,f,g,e,iS Z.1,iP,⟨J,a.K.get s T,(λh=>(a.new _ h).elim T λh=>Aa)⟩,iP,iP,w,H.size,V,((H.mono λ_ h=>h.elim).trans' a.K λj l Ig=>(x.foot l).elim id λh=>Aa),by simpa using R,by simpa using S⟩;simp[results,results7,go_sem]at Y
end
def BM{a:Type}{l:List a}{x}(h:l[i]?=ni x):l.set i x=l:=by
 apply bK
 grind
def Zk(F:0<body.size)(C:body.size<=1000){a}{B:gY}(j:E6 [] a B q t):E6 [] ((Hf body).data.toList++a) (body.data.toList::B) q t:=by
 have K:iR body.data.toList=body.size:=iP;rw[Mf];rw[bY];refine Zl (be_length _ 4) ?_ (by rwa[K]) (by rwa[K]) j;have:=uns_be (body.size:Int) 4;omega
section
variable {Post:PA y F} {g:Nat} {se:List SI} {a:Rq} {L:Nat}
def Ahc(U:Im z F)(P:z iN=tu)(H:Hand h z F y c u g A d f m se r)(V:se[i]?=ni e)(E:e.ver=1)(p:e.en=o9)(q:r[i]?=ni [])(k:GD (se.map SI.abs))(R:∀v∈se.map SI.abs,iR v.lo+2000<=9000000000)(s:PN d)(T:0<body.size)(w:body.size<=1000)(Y:Hc z body.data.toList=ni a)(x:1<=a.kind)(Q:a.kind<=6->Y4 z a.p)(W:a.kind<=3->a.d.size<=40)(B:PC y c u (Hy h A f se) A.D ob K L (Hf body).data.toList):Bg qz tu D5 (Jh Post) 10 #[iI g,iL e.k,Jd ob K (Hf body).data.toList.length L] u λI O=>∃X G C n b,I=iL (UK G.down)/\Hand X z F y c O g A G C n b r/\Se u O A h X f C se b/\Hn a i d (se.map SI.abs) G (b.map SI.abs):=by
 have l:(se.map SI.abs)[i]?=ni e.abs:=by rw[aT,V];rfl
 have hC:E6 [] (Hf body).data.toList [body.data.toList] [] o9:=by
  have:=Zk T w (.done [])
  rwa[bW]at this
 have S:=H.H.F.1;refine Bp (Aci (Post:=Post) U H.H H.os iP V ((k.kw e.abs (aV l)).1) s.dn p q B hC ?_ λσ1 l1 M=>⟨(CB (QE M l p s.dn E Y) S.2 S.3 x Q).aok k R,λo=>by cases o⟩) ?_
 ·intro done aj ak G l' j M
  match done,j with
  |[],j=>
   cases M;obtain⟨rfl,_⟩:=List.cons.inj j;refine⟨by show iR body.data.toList<=1000;exact w,k,λv J _ _=>?_⟩;rw[l]at J;obtain rfl:=aA J;refine n9 ⟨E,s,λr' N=>?_⟩;rw[Y]at N;obtain rfl:=aA N;exact BA P H.H.C.g8 S.2 x Q W
  |[_],j=>simp at j
  |_::_::_,j=>simp at j
 ·rintro I O⟨X,G,C,n,b,rfl,D,t,hR⟩;have o:r.set i (partOf (b.map SI.abs) i [])=r:=by
   have:partOf (b.map SI.abs) i [] = []:=by unfold partOf;split<;>rfl
   rw[this];exact BM q
  rw[o]at D;exact⟨X,G,C,n,b,iP,⟨D,t.K.get H.os H.of,λZ=>(t.new _ Z).elim H.of λZ=>by have:=ltOf H.os;omega⟩,t,Aar hR l p s.dn E Y⟩
end
section
variable {b:Nat->Z×Z} {e:qg} {B:SA} {h:ST} {I:iE} {se f:List SI} {o:gY} {g a:Nat}
def Pj.same{v L}(h:Pj w w.1.size v L)(W:∀i:Nat,w.1[i]?=u.1[i]?)(N:iS w.1=iS u.1):Pj u u.1.size v L:=by
 have ⟨b,I,e,M,Y,z⟩:=h;exact⟨b,I,e,M,N▸Y,λi V j x Z=>(Ce (W b).symm).trans (z i V j x Z)⟩
def Pj.kf{v L}(h:Pj u u.1.size v L)(K:Ax u O iO):Pj O O.1.size v L:=by
 have ⟨b,I,e,M,Y,z⟩:=h;exact⟨b,I,e,M,aC Y K.size,λi V j x Z=>(Ce (K.block b Y id)).trans (z i V j x Z)⟩
def Ajn(H:Hand cu z F y c u g A d fa m se r)(b:0<iR d.ns):Bg E tu D5 N 18 #[iI g] u λx O=>Y u O iO/\∃v L,x=my #[iL d.num,v]/\L.Perm (d.ns.map Prod.snd)/\Kh L/\Pj O O.1.size v L:=by
 have S:=H.H.F.1;refine Bp (Aoj Ae Ae (X:=λ_=>False) (R:=λx e=>∃v L,x=my #[iL d.num,v]/\L.Perm (d.ns.map Prod.snd)/\Kh L/\Pj e e.1.size v L) λe W a=>(Aao e g A.1 A.tb A.5 d.num d.ns (cellOf (j:=0) ((W g).trans H.os) iP) (cellOf (j:=1) ((W A.1).trans S.V.1) iP) (by rw[a];exact ltOf S.V.1) ⟨(W _).trans S.V.ht.blk,S.V.ht.map.of_block (W _)⟩ (by have:=S.2.len;omega)).mono λf B h=>?_) λx O h=>?_
 ·obtain⟨⟨v,L,rfl,C,J,T⟩,q⟩:=h;refine⟨⟨_,iP,v,L,iP,C,J,Pj.of T ?_⟩,B5 q⟩;have:=C.length_eq
  grind
 ·have ⟨K,e,W,a,v,L,Z,C,J,T⟩:=h;exact⟨K,v,L,Z,C,J,T.same W a⟩
def NP(H:H0 cu z F y c u A d fa m se r)(Q:∀q∈d.ns,q.2.path=q.1){L:List Nd}(h:L.Perm (d.ns.map Prod.snd)):(L.map Nd.path).Nodup:=by
 have C:=H.F.1.V.ht.map.nodup;have J:(d.ns.map Prod.snd).map Nd.path=d.ns.map Prod.fst:=by
  rw[cY];exact dH λq f=>Q q f
 grind
def ZZ(H:Hand cu z F y c u g A d fa m se r)(D:Hand b z F y c u a B h I C f o)(K:0<iR d.ns)(Q:∀l∈d.ns,l.2.path=l.1)(L:h.num=d.num)(U:h.ns=d.ns):Bg qz tu D5 N 13 #[iI g,iI a] u λq O=>q=vp tu/\Ax u O iO:=by
 apply Bh func13 Ac iP (R:=λS=>S.getD 4 uw) (λ_ _=>we Ac _ _ _) (λ_ _=>xrg Ac _ _);simp only[ntmps13,na,Nat.reduceAdd,Nat.reduceSub];refine Rxn ?_;refine Ths ?_;refine Rxn ?_;refine V2g ?_;refine A3 (Ajn H K) iP Ac iP Af ?_;rintro q Z⟨i,n,t,rfl,j,w,x⟩;refine Mtk ?_;refine Vj2 ?_;refine Rxn ?_;refine V2g ?_;refine A3 (Ajn (⟨D.H.kf i,i.get D.os id,D.of⟩) (by rwa[U])) iP Ac iP Af ?_;rintro q V⟨J,p,M,rfl,s,R,P⟩;walk_nrm;rw[U]at s;rw[L];obtain rfl:t=M:=JO (j.trans s.symm) w R (NP H.H Q j)
 iterate 5(refine V2g ?_)
 refine Vj2 ?_;have T:iR t<=1000000:=by
  have:=j.length_eq;have:=H.H.F.1.2.len;simp at *;omega
 refine Rxn ?_;refine Wad ?_;refine A3 (Pf (f:=29) (args:=#[n,p]) Ae (X:=λ_=>False) (R:=λq _=>q=vp tu) λe W v=>(JK e n p t ((x.kf J).same (λk=>(W k).symm) v.symm) (P.same (λk=>(W k).symm) v.symm) T).mono λX Y E=>⟨⟨_,E.1,iP⟩,B5 E.2⟩) iP Ac iP Af ?_;rintro q G⟨b6,e,_,_,rfl⟩;walk_nrm;refine Ths ?_;refine Rxn ?_;refine Ldr ?_;refine Bom ?_;refine Wad ?_;refine Vj2 ?_;exact Dm ⟨n9 iP,iP,iP,(i.trans J).trans b6⟩
end
def Vf{p a u}(h:Aem (-1) L a b u p):b=tu/\u = -1:=by
 rcases h with⟨h,_⟩|⟨_,t,_,⟨h,_⟩|⟨_,J,T,_⟩⟩
 ·omega
 ·exact absurd h Ae
 ·exact⟨J,by rw[T];decide⟩
end Go.Proofs.YtcbilgmfdgpomaaGreatDoor
set_option maxRecDepth 10000
namespace Go.Proofs.YtcbilgmfdgpomaaGreatDoor
variable {A:SA}{B l:List AS}{L:List Fl}{Q:Exit->Act->qg->Prop}{a d:ST}{e:SI}{s:List SI}
open Go Go.RowKit Go.Maps
structure X9(n:Nat)(σ:ST):Prop where
 num0:0<=σ.num
 num:σ.num<=n
 path:∀q∈σ.ns,q.2.path=q.1
 root:∃x,((⟨#[47]⟩:hU),x)∈σ.ns
 dn:σ.down=o9
 left:σ.left = -1
 L:iR σ.L<=n
 d:∀f∈σ.L,f.d.size<=n * 400
def X9.ok(h:X9 n a)(z:n<=1000000):PN a:=by
 have C:=h.num;have J:=h.L;exact⟨h.dn,Aa,λf I=>by have:=h.d f I;omega,Aa⟩
def X9.mono(h:X9 n a):X9 (n+1) a:=by
 have C:=h.num;have J:=h.L;exact⟨h.num0,Aa,h.path,h.root,h.dn,h.left,Aa,λf I=>by have:=h.d f I;omega⟩
def X9.pos(h:X9 n a):0<iR a.ns:=by
 have ⟨x,Z⟩:=h.root;exact List.length_pos_of_mem Z
def Aqj(k):X9 0 { σ0 with last:=k }:=by
 refine⟨by show(0:Int)<=0;decide,by show(0:Int)<=0;decide,λq a=>?_,⟨J1,by show _∈[_];simp⟩,iP,iP,by show 0<=0;decide,λf I=>?_⟩
 ·have t:q∈[((⟨#[47]⟩:hU),J1)]:=a
  grind
 ·have:=I;cases this
def WN{t K a}(h:PX L K a t)(c:iR L<=n)(y:∀f∈L,f.d.size<=n * 400)(N:a.size<=400):iR t<=n+1/\∀f∈t,f.d.size<=(n+1) * 400:=by
 rcases h with⟨_,rfl⟩|⟨i,f,I,_,rfl⟩
 ·refine⟨Ah,λf I=>?_⟩;rcases bX.1 I with h|h
  ·have:=y f h;omega
  ·simp only[fC]at h;subst h;simp only[cB];have:(iN:hU).size=0:=iP;omega
 grind
def TH{t K}(h:VT L K t)(c:iR L<=n)(y:∀f∈L,f.d.size<=n * 400):iR t<=n/\∀f∈t,f.d.size<=n * 400:=by
 rcases h with⟨_,rfl⟩|⟨i,f,I,_,rfl⟩
 ·exact⟨c,y⟩
 grind
def ZI{p a u}(h:Aem (-1) L a b u p)(c:iR L<=n)(y:∀f∈L,f.d.size<=n * 400)(N:a.size<=400):iR p<=n+1/\∀f∈p,f.d.size<=(n+1) * 400:=by
 rcases h with⟨h,_⟩|⟨_,t,d,⟨h,_⟩|⟨_,_,_,s⟩⟩
 ·omega
 ·exact absurd h Ae
 ·have ⟨C,J⟩:=WN d c y N;exact TH s C J
def ZH(kind a){p d n}(Q:p.size<=200)(y:d.size<=40)(z:n.size<=10):(AU kind a p d n).size<=400:=by
 show(Orch.be _ 4++Oc kind a p d n).length<=400;rw[aM,be_length,AR];omega
def Af1{b r G V}(h:Hn r i a l G V)(I:X9 n a)(E:1<=r.kind)(Q:r.kind<=6->Y4 b r.p)(y:r.kind<=3->r.d.size<=40):X9 (n+1) G:=by
 unfold Hn at h;split at h
 ·rename_i T;unfold chR at h;rw[I.left]at h;rcases h with⟨_,rfl,_⟩|⟨M,j,u,p,Y,h⟩
  ·exact I.mono
  ·obtain⟨rfl,rfl⟩:=Vf Y;rcases h with⟨D,_⟩|⟨_,rfl,_⟩
   ·cases D
   ·obtain⟨c,d⟩:=ZI Y I.L I.d (ZH _ _ (Q Aa).ps (y T) Ae);have k:=I.num0;have m:=I.num;refine⟨Ai,Ai,?_,?_,I.dn,iP,c,d⟩
    ·intro q f
     show q.2.path=q.1;have t:q∈Rh r.kind a.ns r.p r.d iN (a.num+1):=f;unfold Rh at t;split at t
     ·rcases bX.1 t with h|h
      ·exact I.path q h
      grind
     ·split at t
      ·exact I.path q (List.mem_filter.1 t).1
      ·obtain⟨U,F,rfl⟩:=aZ.1 t;split
       ·rename_i e
        show U.2.path=r.p;rw[I.path U F,e]
       ·exact I.path U F
    ·obtain⟨x,Z⟩:=I.root
     show ∃x,((⟨#[47]⟩:hU),x)∈Rh r.kind a.ns r.p r.d iN (a.num+1);unfold Rh;split
     ·exact⟨x,fI _ Z⟩
     ·split
      ·rename_i _ g;refine⟨x,List.mem_filter.2 ⟨Z,?_⟩⟩;have:(⟨#[47]⟩:hU)≠r.p:=λe=>by
        unfold E8 at M;rw[g,aL Ae,aJ iP,aJ e.symm]at M;cases M
       simpa using this
      ·by_cases e:(⟨#[47]⟩:hU)=r.p
       ·exact⟨_,aZ.2 ⟨_,Z,by rw[aJ e,←e]⟩⟩
       ·exact⟨x,aZ.2 ⟨_,Z,aL e⟩⟩
 ·split at h
  ·obtain⟨rfl,_⟩:=h;have J:=I.mono;exact⟨J.num0,J.num,J.path,J.root,J.dn,J.left,J.L,J.d⟩
  ·obtain⟨rfl,_⟩:=h;exact I.mono
open Go.Conc Go.Pair
section
variable {se:List SI}
def MT:Bg E tu D5 N 6 #[] u λx O=>x=my #[w9 (ni ⟨iS u.1+1,0,su⟩),w9 (ni ⟨iS u.1+2,0,su⟩)]/\Y u O iO/\Hs O (iS u.1+1) u.1.size/\iS u.1+3<=iS O.1:=by
 refine Bp (Pf Ae (X:=λ_=>False) (R:=λx w=>x=my #[w9 (ni ⟨iS u.1+1,0,su⟩),w9 (ni ⟨iS u.1+2,0,su⟩)]/\Hs w (iS u.1+1) u.1.size/\iS u.1+3<=iS w.1) λw W a=>(MU w).mono λe B h=>?_) λx O h=>?_
 ·obtain⟨rfl,rfl⟩:=h;refine⟨⟨_,iP,by rw[a],?_,?_⟩,(((Ba _ _ _ _).trans (Ba _ _ _ _)).trans (Ba _ _ _ _))⟩
  ·rw[←a];have l:(w.alloc (jf #[um su 0 0,iL (-1)] 58)).1.size=iS w.1+1:=Ad;have J:=sx (w.alloc (jf #[um su 0 0,iL (-1)] 58)) (jf #[iI w.1.size] 60);rw[l]at J;exact⟨(Ba _ _ _ λ_=>False).get J id,((Ba _ _ _ λ_=>False).trans (Ba _ _ _ λ_=>False)).get (sx w (jf #[um su 0 0,iL (-1)] 58)) id⟩
  ·rw[←a];simp
 ·have ⟨K,w,W,a,Z,hF,T⟩:=h;exact⟨Z,K,⟨(W _).symm.trans hF.d,(W _).symm.trans hF.k⟩,Aa⟩
def PC.new(H:H0 h z F y c u A d f m se r)(K:Y u O iO){fz}{s:hU}{a}(D:O.1[iS u.1]?=ni (jf cs 5 fz))(V:Jl cs)(M:s.size<=a)(o:Bytes O u.1.size 0 s.data.toList):PC y c O (Hy h A f se) A.D (ni u.1.size) 0 a s.data.toList:=
 ⟨λX l=>by
  obtain rfl:=aA l;exact⟨H.C.sz,λB=>by have:=H.C.W.lt B;omega,λB=>by have:=H.lt B;omega,λl=>by have:=ltOf H.F.1.7;omega,cs,fz,D,V⟩,M,λ_=>⟨_,iP,o⟩⟩

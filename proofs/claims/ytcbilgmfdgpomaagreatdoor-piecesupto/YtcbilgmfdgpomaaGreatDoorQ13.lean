import Derived.Test.YtcbilgmfdgpomaaGreatDoorQ12
set_option linter.all false
noncomputable section
open List renaming length → iR
set_option maxHeartbeats 4000000
set_option maxRecDepth 8000
open Option renaming some → ni,none → su
open Go.Proofs.Tryz renaming prog → qz,runUnderlying37 → xnt,prog → Z
open Go renaming Value → w8,World → qg,undef → uw,Addr → rj,heap_alloc_new → sx,Goroutine → o5,events_store → nk,results_none → pqk,Value → I,World → T
open Bool renaming true → tu,false → o9
open Go.Exit renaming normal → cxv
open Go.Conc renaming events_results_none → kmq
open Go.Mode renaming plain → uwj
open Go.Lit renaming int → pkj
open Go.World renaming cell? → sw,frozen? → esk,alloc → lbx,heap → ain,freeze → uzk
open Go.Region renaming wanted → yg
open Array renaming size → ldj,size → iS
open Go.Value renaming bool → vp,string → x7,pointer → w9,slice → um,tuple → my
open Go.Obj renaming cells → jf
open Go.IntKind renaming i64 → yi
open Go.Ending renaming returned → xr
open Or renaming inl → p8,inr → n9
open Orch renaming be → E
open Go.Proofs.Tryz Orch
variable {B O u w:T}{Bs X c:hY}{D K M P a b cb g i m n nb rb s sb sm svb t y:Nat}{F:iA}{H en sn:Int}{N:o5->T->Prop}{S k:I}{cs j rc vc:iB}{cu h:Nat->I×I}{d:List (I×I)}{fa v:iE}{p q:Prop}{z:gZ}
def G5y(k:q)(h:Hd q->p:=by
 intro kz;refine A9.tp 0 d f D ?_;walk_nrm;refine A9.tp 1 d f D ?_;walk_nrm;refine A9.tp 2 d f D ?_;walk_nrm;refine A9.tp 4 d f D ?_;walk_nrm;exact kz.1):p:=h ⟨k⟩
def M37(k:q)(h:Hd q->p:=by
 intro kz;refine Bh Tryz.func162 Ac iP (R:=λS=>S.getD 4 undef) (λ_ _=>results_tmp Ac _ _ _) (λ_ _=>events_results_tmp Ac _ _) ?_;simp only[Tryz.ntmps162,na,Nat.reduceAdd,Nat.reduceSub];exact kz.1):p:=h ⟨k⟩
def N1m(k:q)(h:Hd q->p:=by
 intro kz;refine Ar ?_;walk_nrm;refine Bq (cellOf (j:=0) G iP) (U 0) ?_;walk_nrm;refine Au ?_;simp only[A0,As];refine Du ?_;exact kz.1):p:=h ⟨k⟩
def Od4(k:q)(h:Hd q->p:=by
 intro kz;refine Au ?_;simp only[A0,As];refine A2 (t:=true) Ac ?_;simp only[bP,bQ,aR];exact kz.1):p:=h ⟨k⟩
def Ar6(k:q)(h:Hd q->p:=by
 intro kz;refine A9.only (i:=10) Ab ?_;have w:=Ba B Nd.zero.cs 87 iO;have a6:=L.alloc Nd.zero.cs 87;have a1:(B.alloc (.cells Nd.zero.cs 87)).1[B.1.size]?=some (.cells Nd.zero.cs 87):=heap_alloc_new _ _;revert w a6 a1;exact kz.1):p:=h ⟨k⟩
def Ynb(k:q)(h:Hd q->p:=by
 intro kz;have ab:¬c u.1.size:=λZ=>by have:=C.W.lt Z;omega
 have U:∀P,¬J (.cell ⟨u.1.size,P,none⟩):=λP Z=>ab (C.W.2 _ Z);revert ab U;exact kz.1):p:=h ⟨k⟩
def G9b(h:p:=by
 refine Dm ?_;simp only[A0,As];refine⟨.inr trivial,trivial,an.trans az,a8,?_⟩;walk_nrm;exact Vv aa ad af ah):p:=h
def Fi4(k:q)(h:Hd q->p:=by
 intro kz;refine Bi iP Ac ?_;exact kz.1):p:=h ⟨k⟩
def Xoc(h:p:=by
 rintro W Q⟨rfl,E⟩;refine⟨R.own E.K a7.own aw ax ay Ae,?_⟩;walk_nrm;exact A9.all Ab ⟨.inl iP,iP,E.from l Ig⟩ _):p:=h
def D60(h:p:=by
 rw[B];exact e.map.of_block (K.block _ e.map.lt (e.1.offS e.map e.ses (.inr (.inr (.inr (.inr (.inr (.inr iP))))))))):p:=h
def Tbq(h:p:=by
 rw[aT,eQ,aT];by_cases H:i=G
 ·subst H;rw[bI (aD.1 V).1,V];simp[SI.abs]
 grind):p:=h
def F5y(h:p:=by
 rintro W Q⟨rfl,E⟩;refine⟨D.kx E.K (λg=>g.elim a6 (Gt (t.kx X id λ_ _=>id).own D.1 Ad)) (λg=>g.elim a7 (Gt (t.kx X id λ_ _=>id).own D.2 Ad)),?_⟩;walk_nrm;exact A9.all Ab ⟨.inl iP,iP,E.W,a8 B Q _ X E⟩ _):p:=h
def Vlc(k:q)(h:Hd q->p:=by
 intro kz;walk_nrm;refine Au ?_;simp only[As];exact kz.1):p:=h ⟨k⟩
def Nu8(h:p:=by
 walk_nrm;refine A3 (ad Aa) iP Ac iP Af ?_;rintro x O⟨rfl,f,Z⟩;walk_nrm;refine Au ?_;simp only[As];exact⟨.inl trivial,trivial,trivial,f,Z⟩):p:=h
def C7z(h:p:=by
 walk_nrm;refine A3 (aa Aa) iP Ac iP Af ?_;rintro x O⟨rfl,f,Z⟩;walk_nrm;refine Au ?_;simp only[As];exact⟨.inl trivial,trivial,trivial,f,Z⟩):p:=h
def Ksg(h:p:=by
 subst H;rw[bI (aD.1 V).1,V];simp[SI.abs]):p:=h
namespace Go.Proofs.YtcbilgmfdgpomaaGreatDoor
variable {L:List Fl}{Q:Exit->Act->T->Prop}{o:Obj}{p':SI}{r:List (hU×Nd)}{rt:TypeId}{se:List SI}{x:Nd}
open Go Go.Conc Go.Pair Go.RowKit Go.Maps
section
variable {J:hZ}
def YW(U:Im z F)(C:Cx F y J c u){w f b num}(V:GN c u a w D t M sm f b num r)(m:Pm num r)(p d n v):Bg qz tu J N 162 #[iI a,Mx 1 p d n v] u λl O=>Ax u O iO/\VW J c O/\VsB c O [txt p] l:=by
 have Y:=ltOf V.1;have o:=V.1;have R:=V.ht;have k:=V.4;have K:=V.nm;have q:∀P,¬J (.cell (iK a P)):=λP Z=>V.nv (C.W.2 _ Z);refine M37 ?_;refine Rxn ?_;apply Dl (Dx 1 p d n v) 152;walk_nrm;have an:=Ba u (Dx 1 p d n v) 152 iO;have g:=C.W.alloc (Dx 1 p d n v) 152;have G:(u.alloc (jf (Dx 1 p d n v) 152)).1[iS u.1]?=ni (jf (Dx 1 p d n v) 152):=sx _ _;generalize u.alloc (jf (Dx 1 p d n v) 152)=A at an g G⊢;have h:¬c u.1.size:=λZ=>by have:=C.W.lt Z;omega
 have j:∀P,¬J (.cell (iK u.1.size P)):=λP Z=>h (C.W.2 _ Z);refine Ths ?_;refine Rxn ?_;refine V2g ?_;apply Bq (cellOf (j:=0) G iP) (j 0);walk_nrm;refine Vj2 ?_;apply Du;refine Rxn ?_;refine Wad ?_;refine Od4 ?_;refine Rxn ?_;refine V2g ?_;refine Bq (cellOf (j:=1) G iP) (j 1) ?_;walk_nrm;refine A3 (MJ (f:=193) (args:=#[x7 p]) Ae g (X:=λ_=>False) (R:=λx e=>D9 e (λi=>i<iS e.1) [txt p] x) (λ_ _ Z=>Z) λL s=>(Aed L p).mono λE e Z=>⟨Z.1,B5 Z.2⟩) iP Ac iP Af ?_;rintro l B⟨az,a8,H,aa,ad,af,ah⟩;walk_nrm;refine Ths ?_;exact G9b
def YX(e:Im z F)(C:Cx F y J c u){b d num}(V:GN c u a g m t M sm b d num r)(f:Pm num r)(p o n i):Bg qz tu J N 162 #[iI a,Mx 2 p o n i] u λj O=>Ax u O iO/\VW J c O/\j=um su 0 0:=by
 have Y:=ltOf V.1;have R:=V.ht;have k:=V.4;have K:=V.nm;have q:∀P,¬J (.cell (iK a P)):=λP Z=>V.nv (C.W.2 _ Z);refine M37 ?_;refine Rxn ?_;apply Dl (Dx 2 p o n i) 152;walk_nrm;have a7:=Ba u (Dx 2 p o n i) 152 iO;have l:=C.W.alloc (Dx 2 p o n i) 152;have G:(u.alloc (jf (Dx 2 p o n i) 152)).1[iS u.1]?=ni (jf (Dx 2 p o n i) 152):=sx _ _;generalize u.alloc (jf (Dx 2 p o n i) 152)=h at a7 l G⊢;refine Ynb λab U=>?_;refine Ths ?_;refine Rxn ?_;refine N1m ?_;refine Rxn ?_;refine Wad ?_;refine Zln ?_;refine Rxn ?_;refine Wad ?_;refine Zln ?_;refine Rxn ?_;refine Ths ?_;refine Dm ?_;simp only[A0,As]
 simp_all
def YY(bk:Im z F)(C:Cx F y J c u){tb b I num}(V:GN c u svb a tb t M sm b I num r)(tk:Pm num r)(p o n i)(hp:Hr p=tu)(b7:p.size<=1000)(x)(hx:(p,x)∈r):Bg qz tu J N 162 #[iI svb,Mx 3 p o n i] u λlv u'=>Ax u u' iO/\VW J c u'/\VsB c u' [.mk 0 iN [Orch.num x.made,Orch.num x.changed,Orch.num x.version,Orch.num ((kids p r).length:Nat)]] lv:=by
 have Ig:=ltOf V.1;have hv:=V.1;have nv:=V.nv;have ht:=V.ht;have nt:=V.4;have nm:=V.nm;have jv:∀P,¬J (.cell (iK svb P)):=λP Z=>nv (C.W.2 _ Z);refine M37 ?_;refine Rxn ?_;refine Dl (Dx 3 p o n i) 152 ?_;walk_nrm;have a7:=Ba u (Dx 3 p o n i) 152 iO;have ao:=C.W.alloc (Dx 3 p o n i) 152;have G:(u.alloc (jf (Dx 3 p o n i) 152)).1[iS u.1]?=ni (jf (Dx 3 p o n i) 152):=sx _ _;generalize u.alloc (jf (Dx 3 p o n i) 152)=h at a7 ao G⊢;refine Ynb λab U=>?_;refine Ths ?_;refine Rxn ?_;refine N1m ?_;refine Rxn ?_;refine Wad ?_;refine Zln ?_;refine Rxn ?_;refine Wad ?_;refine Od4 ?_;refine Aw ?_;have al:=a7.get hv id;have b8:=ht.kx a7 id id;have d:=Jg.at (rb:=iS u.1) (rc:=Dx 3 p o n i) (rt:=152) (svb:=svb) (vc:=B9 a tb M sm b I);refine Cr (Q:=λai a' m=>ai=.normal/\∃nb,a'=⟨#[iI svb,Mx 3 p o n i,uw,iI u.1.size,um su 0 0,iI nb,iL 0,w9 (ni (((iJ u.1.size):rj).add 0)),iL 3,vp (decide ((3:Int)=1)),vp (decide ((3:Int)=1)),uw,uw,uw,vp (decide ((3:Int)=3)),vp (decide ((3:Int)=3)),my #[x.val,iL 0],iI svb,iI svb,w9 (ni (((iJ svb):rj).add 1)),iI tb,w9 (ni (((iJ u.1.size):rj).add 1)),x7 p,my #[x.val,iL 0],x.val,iL 0,uw,uw,uw,uw,uw,uw,uw,uw,uw,uw],[]⟩/\iS h.1<=nb/\m.1[nb]?=ni (jf x.cs 87)/\Ax h m iO/\VW J c m) ?_ ?_
 ·refine Em (I:=Jg u.1.size (Dx 3 p o n i) 152 svb (B9 a tb M sm b I)) Ac λk=>?_;have f:∀(au:Act)(q:qg)(H:Nat),(cxv=cxv/\∃nb,au=⟨#[iI svb,Mx 3 p o n i,uw,iI u.1.size,um su 0 0,iI nb,iL 0,w9 (ni (((iJ u.1.size):rj).add 0)),iL 3,vp (decide ((3:Int)=1)),vp (decide ((3:Int)=1)),uw,uw,uw,vp (decide ((3:Int)=3)),vp (decide ((3:Int)=3)),my #[x.val,iL 0],iI svb,iI svb,w9 (ni (((iJ svb):rj).add 1)),iI tb,w9 (ni (((iJ u.1.size):rj).add 1)),x7 p,my #[x.val,iL 0],x.val,iL 0,uw,uw,uw,uw,uw,uw,uw,uw,uw,uw],[]⟩/\iS h.1<=nb/\q.1[nb]?=ni (jf x.cs 87)/\Ax h q iO/\VW J c q)->(cxv=cxv/\∃nb,au=⟨#[iI svb,Mx 3 p o n i,uw,iI u.1.size,um su 0 0,iI nb,iL 0,w9 (ni (((iJ u.1.size):rj).add 0)),iL 3,vp (decide ((3:Int)=1)),vp (decide ((3:Int)=1)),uw,uw,uw,vp (decide ((3:Int)=3)),vp (decide ((3:Int)=3)),my #[x.val,iL 0],iI svb,iI svb,w9 (ni (((iJ svb):rj).add 1)),iI tb,w9 (ni (((iJ u.1.size):rj).add 1)),x7 p,my #[x.val,iL 0],x.val,iL 0,uw,uw,uw,uw,uw,uw,uw,uw,uw,uw],[]⟩/\iS h.1<=nb/\(q.at H).1[nb]?=ni (jf x.cs 87)/\Ax h (q.at H) iO/\VW J c (q.at H)):=λau q H⟨h1,nb,h2,h3,h4,h5,h6⟩=>⟨h1,nb,h2,h3,h4,h5.at H,h6.at H⟩;have D:Jg u.1.size (Dx 3 p o n i) 152 svb (B9 a tb M sm b I) (h.at k):=⟨G,al⟩;refine G5y ?_;refine A9.tl 3 d f D (λq (e:Jg _ _ _ _ _ q)=>(cellOf (j:=1) e.2 iP:q.cell? (iK svb 1)=ni (iI tb))) (jv 1) ?_;walk_nrm;refine A9.tl 5 d f D (λq (e:Jg _ _ _ _ _ q)=>(cellOf (j:=1) e.1 iP:q.cell? (iK u.1.size 1)=ni (x7 p))) (U 1) ?_;walk_nrm;have HC:∀q,Ax h q iO->VW J c q->Bg qz tu J N 163 #[iI tb,x7 p] q λW m=>Ax q m iO/\VW J c m/\W=my #[x.val,iL 0]:=λq hk hW=>by
   refine Bp (Gl (f:=163) Ae hW (X:=λ_=>False) (R:=λW _=>W=my #[x.val,iL 0]) (λ_ _ Z=>Z) λO Y=>?_) λW m Z=>⟨Z.1,Z.2.1,let⟨_,_,_,Z⟩:=Z.2.2;Z⟩;have Gv:=(C.kx (a7.trans hk) hW λ_ Z=>Z.elim).glob Y;obtain⟨b9,hm⟩:=Gv.ml;exact(Ti ((b8.kx hk id id).sim Y nt nm) b9 hm (by have:=Gv.size;have:=C.g8;omega) p b7 hp x hx).mono λai m Z=>⟨⟨_,Z.1,iP⟩,B5 Z.2⟩
  refine KT (i:=6) (j:=10) Ab ?_ ?_
  ·refine NB (HC (h.at k) ((Ax.refl _ _).at k) (ao.at k)) iP Ac iP Af ?_;rintro W B⟨E,L,rfl⟩;have K:Ax h B iO:=((Ax.refl h _).at k).trans E;refine⟨Jg.kx D E id id,?_⟩;walk_nrm;have s:=Jg.kx D E id id;refine A9.tp 7 d f s ?_;walk_nrm;refine A9.tp 8 d f s ?_;walk_nrm;refine A9.tp 9 d f s ?_;walk_nrm;refine Ar6 λw a6 a1=>?_;refine AM (S:=env Lv) (fn:=0) d f iP Ac (B7 Ab) (A4 _ _) (x:=w9 (ni ⟨ldj (ain B),0,su⟩)) (v':=lbx B (jf Nd.zero.cs 87)) (λg=>p8 Kx) Ai5 (Jg.kx s w id id) ?_;walk_nrm;generalize B.alloc (jf Nd.zero.cs 87)=v at w a6 a1⊢;have nn:¬c B.1.size:=λZ=>by have:=L.lt Z;omega
   have j:=K.trans w;have aq:=Jg.kx s w id id;have SN:=X5 (J:=J) (x:=x) a1 (λP Z=>nn (C.W.2 _ Z));have T4:=Nn a1 x;have A:Ax v (putN v B.1.size x) (· = iS B.1):=Ax.of_grown T4.grown (p8 iP);have aj:¬iS u.1=iS B.1:=λZ=>by have h1:=ltOf G;have h2:=K.size;omega
   have ak:¬svb=iS B.1:=λZ=>by have h1:=ltOf al;have h2:=K.size;omega
   have av:=Jg.kx aq A aj ak;refine Rb (i:=11) (S:=env Lv) (fn:=0) (x:=uw) (v':=putN v B.1.size x) d f Ab iP Ac (B7 Ab) (A4 _ _) (SN _ 5 24 iP _ Ac Ac).1 (SN _ 5 24 iP _ Ac Ac).2 av ?_;walk_nrm;refine A9.tp 12 d f av ?_;walk_nrm;have b5:Ax h (putN v B.1.size x) iO:=⟨A.os.trans j.os,A.tape.trans j.tape,A.output.trans j.output,aF j.size A.size,λP aw _=>(A.block P (aC aw j.size) (λZ=>by have h2:=K.size;omega)).trans (j.block P aw λZ=>Z)⟩;exact A9.all Ab ⟨iP,_,iP,K.size,T4.blk,b5,a6.putN _ _⟩ _
  ·have E:=(Ba (h.at k) Nd.zero.cs 87 iO);have L:=(ao.at k).alloc Nd.zero.cs 87;have ay:((h.at k).alloc (jf Nd.zero.cs 87)).1[(h.at k).1.size]?=ni (jf Nd.zero.cs 87):=sx _ _;have s:=Jg.kx D E id id;refine AM (S:=env Lv) (fn:=0) d f iP Ac (B7 Ab) (A4 _ _) (x:=w9 (ni ⟨ldj (ain (h.at k)),0,su⟩)) (v':=lbx (h.at k) (jf Nd.zero.cs 87)) (λg=>p8 Kx) Ai5 s ?_;walk_nrm;have nn:¬c (h.at k).1.size:=λZ=>by have:=(ao.at k).lt Z;omega
   have K:Ax h ((h.at k).alloc (jf Nd.zero.cs 87)) iO:=((Ax.refl h _).at k).trans E;generalize (h.at k).alloc (jf Nd.zero.cs 87)=B at E L ay s K⊢;refine Ca (i:=6) (HC B K L) Ab iP Ac iP Af ?_;rintro W v⟨w,a6,rfl⟩;refine⟨Jg.kx s w id id,?_⟩;walk_nrm;have aq:=Jg.kx s w id id;refine A9.tp 7 d f aq ?_;walk_nrm;refine A9.tp 8 d f aq ?_;walk_nrm;refine A9.tp 9 d f aq ?_;walk_nrm;have j:=K.trans w;have a1:=w.get ay id;have ax:iS h.1<=(h.at k).1.size:=aB _;have SN:=X5 (J:=J) (x:=x) a1 (λP Z=>nn (C.W.2 _ Z));have T4:=Nn a1 x;have A:Ax v (putN v (h.at k).1.size x) (· = (h.at k).1.size):=Ax.of_grown T4.grown (p8 iP);have aj:¬iS u.1=(h.at k).1.size:=λZ=>by have h1:=ltOf G;have h2:=ax;omega
   have ak:¬svb=(h.at k).1.size:=λZ=>by have h1:=ltOf al;have h2:=ax;omega
   have av:=Jg.kx aq A aj ak;refine Rb (i:=11) (S:=env Lv) (fn:=0) (x:=uw) (v':=putN v (h.at k).1.size x) d f Ab iP Ac (B7 Ab) (A4 _ _) (SN _ 5 24 iP _ Ac Ac).1 (SN _ 5 24 iP _ Ac Ac).2 av ?_;walk_nrm;refine A9.tp 12 d f av ?_;walk_nrm;have b5:Ax h (putN v (h.at k).1.size x) iO:=⟨A.os.trans j.os,A.tape.trans j.tape,A.output.trans j.output,aF j.size A.size,λP aw _=>(A.block P (aC aw j.size) (λZ=>by have h2:=ax;omega)).trans (j.block P aw λZ=>Z)⟩;exact A9.all Ab ⟨iP,_,iP,ax,T4.blk,b5,a6.putN _ _⟩ _
 ·rintro e' a' B⟨rfl,nb,rfl,ax,ay,E,L⟩;simp only[A0];have an:=a7.trans E;have ba:=E.get G id;have bb:=an.get hv id;have bd:=ht.kx an id id;have bf:¬c nb:=λZ=>by have h1:=C.W.lt Z;have h2:=a7.size;omega
  have jn:∀P,¬J (.cell (iK nb P)):=λP Z=>bf (C.W.2 _ Z);refine Aw ?_;have l:=DN.at (rb:=iS u.1) (rc:=Dx 3 p o n i) (rt:=152) (svb:=svb) (vc:=B9 a tb M sm b I) (nb:=nb) (x:=x);refine Em (I:=DN u.1.size (Dx 3 p o n i) 152 svb (B9 a tb M sm b I) nb x) Ac λQ=>?_;have T:DN u.1.size (Dx 3 p o n i) 152 svb (B9 a tb M sm b I) nb x (B.at Q):=⟨⟨ba,bb⟩,ay⟩;refine A9.tp 1 l Am4 T ?_;walk_nrm;refine A9.tp 2 l Am4 T ?_;walk_nrm;refine A9.tp 3 l Am4 T ?_;walk_nrm;refine A9.tp 5 l Am4 T ?_;walk_nrm;refine A9.tl 4 l Am4 T (λq (e:DN _ _ _ _ _ _ _ q)=>(cellOf (j:=1) e.1.2 iP:q.cell? (iK svb 1)=ni (iI tb))) (jv 1) ?_;walk_nrm;refine A9.tl 6 l Am4 T (λq (e:DN _ _ _ _ _ _ _ q)=>(cellOf (j:=1) e.1.1 iP:q.cell? (iK u.1.size 1)=ni (x7 p))) (U 1) ?_;walk_nrm;refine A9.take (i:=0) (x:=(x.val)) l Am4 iP Ab Ab Ab (Gq (S:=env Lv) Ac (B7 (fn:=0) Ab) (A4 _ _) ?_) T ?_
  ·exact λq e=>IJ e.2 jn _ _ iP _ Ac
  walk_nrm;refine Ca (i:=7) (Gl (f:=167) (args:=#[iI tb,x7 p]) Ae (L.at Q) (X:=λ_=>False) (R:=λW _=>∃au bh,W=um au (kids p r).length bh) (λ_ _ Z=>Z) λO Y=>(P4 O tb t num r ((bd.at Q).sim Y nt nm) p (by have:=tk.len;omega) tk.size).mono λai m Z=>⟨let⟨v',h1,h2⟩:=Z.1;⟨v',h1,AN h2⟩,B5 Z.2⟩) Ab iP Ac iP Af ?_;rintro W ae⟨ar,W6,L6,bc,bm,bg,cc,rfl⟩;have b6:=T.kx ar id id id;refine⟨b6,?_⟩;walk_nrm;refine A9.tp 8 l Am4 b6 ?_;walk_nrm;refine Ca (i:=9) (MJ (f:=169) (args:=#[x.val,iL ((kids p r).length:Nat)]) Ae W6 (X:=λ_=>False) (R:=λW m=>D9 m (λbj=>bj<iS m.1) [.mk 0 iN [Orch.num x.made,Orch.num x.changed,Orch.num x.version,Orch.num ((kids p r).length:Nat)]] W) (λ_ _ Z=>Z) λO Y=>(FR O x.path x.data x.note x.made x.changed x.version ((kids p r).length:Nat)).mono λai m Z=>⟨Z.1,B5 Z.2⟩) Ab iP Ac iP Af ?_;rintro lv u7⟨X,a8,L7,aa,ad,af,ah⟩;have R:=b6.kx X id id id;refine⟨R,?_⟩;walk_nrm;refine A9.tp 10 l Am4 R ?_;walk_nrm;refine E43 ?_;have az:Ax B u7 iO:=(((Ax.refl B _).at Q).trans ar).trans X;exact G9b
end
def lkA:Code:=match f121.body with|some (.seq _ (.seq c _))=>c|_=>.skip
def lkB:Code:=match f121.body with|some (.seq _ (.seq _ (.seq c _)))=>c|_=>.skip
def L5(svb sb:Nat)(r:I)(rb:Nat)(s:iD):Act:=⟨#[iI svb,iI sb,r,s 3,s 4,iI rb,s 6,s 7,s 8,s 9,s 10,s 11,s 12,s 13,s 14,s 15,s 16,s 17,s 18,s 19,s 20,s 21,s 22,s 23,s 24,s 25,s 26,s 27,s 28,s 29,s 30,s 31,s 32,s 33,s 34,s 35,s 36,s 37,s 38,s 39,s 40,s 41,s 42,s 43,s 44,s 45,s 46,s 47,s 48,s 49,s 50,s 51,s 52,s 53,s 54,s 55,s 56,s 57,s 58,s 59,s 60,s 61,s 62,s 63,s 64,s 65,s 66,s 67,s 68,s 69,s 70,s 71,s 72,s 73,s 74,s 75,s 76,s 77,s 78,s 79,s 80,s 81,s 82,s 83,s 84,s 85,s 86,s 87],[]⟩
def LK(svb sb:Nat)(r:I)(rb nb:Nat)(en:Int)(s:iD):Act:=⟨#[iI svb,iI sb,r,s 3,s 4,iI rb,iI nb,iL en,s 8,s 9,s 10,s 11,s 12,s 13,s 14,s 15,s 16,s 17,s 18,s 19,s 20,s 21,s 22,s 23,s 24,s 25,s 26,s 27,s 28,s 29,s 30,s 31,s 32,s 33,s 34,s 35,s 36,s 37,s 38,s 39,s 40,s 41,s 42,s 43,s 44,s 45,s 46,s 47,s 48,s 49,s 50,s 51,s 52,s 53,s 54,s 55,s 56,s 57,s 58,s 59,s 60,s 61,s 62,s 63,s 64,s 65,s 66,s 67,s 68,s 69,s 70,s 71,s 72,s 73,s 74,s 75,s 76,s 77,s 78,s 79,s 80,s 81,s 82,s 83,s 84,s 85,s 86,s 87],[]⟩
def LC(svb sb:Nat)(r:I)(rb nb:Nat)(en:Int)(ca:iE)(ck cc:Nat)(s:iD):Act:=⟨#[iI svb,iI sb,r,s 3,s 4,iI rb,iI nb,iL en,um ca ck cc,s 9,s 10,s 11,s 12,s 13,s 14,s 15,s 16,s 17,s 18,s 19,s 20,s 21,s 22,s 23,s 24,s 25,s 26,s 27,s 28,s 29,s 30,s 31,s 32,s 33,s 34,s 35,s 36,s 37,s 38,s 39,s 40,s 41,s 42,s 43,s 44,s 45,s 46,s 47,s 48,s 49,s 50,s 51,s 52,s 53,s 54,s 55,s 56,s 57,s 58,s 59,s 60,s 61,s 62,s 63,s 64,s 65,s 66,s 67,s 68,s 69,s 70,s 71,s 72,s 73,s 74,s 75,s 76,s 77,s 78,s 79,s 80,s 81,s 82,s 83,s 84,s 85,s 86,s 87],[]⟩
def Afv{z r V a}(h:a=LK z D r P V en (λj=>a.tmps.getD j uw)):∃s,a=LK z D r P V en s:=⟨_,h⟩
section
variable {J:hZ}
def Aol(C:Cx F y J Bs u){tb R Q num}(V:GN Bs u svb a tb t M sm R Q num r)(sb)(kind:Nat)(c p h k l o rb)(G:u.1[rb]?=ni (jf (A7 kind c p h k l o) 131))(nr:¬Bs rb)(x:Nd)(en)(HF:∀O,Cj O tb t num r->V0 F y O->Calls qz 163 #[iI tb,x7 p] O λa7 m=>a7=xr (my #[x.val,iL en])/\iM O m)(s):Hj qz tu J N 121 lkA (λa7 a' m=>a7=.normal/\∃b,(∃T,a'=LK svb sb (J7 kind c p h k l o) rb b en T)/\iS u.1<=b/\m.1[b]?=ni (jf x.cs 87)/\Ax u m iO/\VW J Bs m) (L5 svb sb (J7 kind c p h k l o) rb s) u:=by
 have al:=V.1;unfold lkA L5;simp only[f121];have d:=Jg.at (rb:=rb) (rc:=A7 kind c p h k l o) (rt:=131) (svb:=svb) (vc:=B9 a tb M sm R Q);refine Em (I:=Jg rb (A7 kind c p h k l o) 131 svb (B9 a tb M sm R Q)) Ac λj=>?_;have f:∀(a8:Act)(q:qg)(I:Nat),(cxv=cxv/\∃b,(∃T,a8=LK svb sb (J7 kind c p h k l o) rb b en T)/\iS u.1<=b/\q.1[b]?=ni (jf x.cs 87)/\Ax u q iO/\VW J Bs q)->(cxv=cxv/\∃b,(∃T,a8=LK svb sb (J7 kind c p h k l o) rb b en T)/\iS u.1<=b/\(q.at I).1[b]?=ni (jf x.cs 87)/\Ax u (q.at I) iO/\VW J Bs (q.at I)):=λa8 q I⟨h0,b,h1,h2,h3,h4,h5⟩=>⟨h0,b,h1,h2,h3,h4.at I,h5.at I⟩;have D:Jg rb (A7 kind c p h k l o) 131 svb (B9 a tb M sm R Q) (u.at j):=⟨G,al⟩;refine G5y ?_;refine A9.tl 3 d f D (λq (e:Jg _ _ _ _ _ q)=>(cellOf (j:=1) e.2 iP:q.cell? (iK svb 1)=ni (iI tb))) ((λP Z=>V.nv (C.W.2 _ Z)) 1) ?_;walk_nrm;refine A9.tl 5 d f D (λq (e:Jg _ _ _ _ _ q)=>(cellOf (j:=2) e.1 iP:q.cell? (iK rb 2)=ni (x7 p))) ((λP Z=>nr (C.W.2 _ Z)) 2) ?_;walk_nrm;have HC:∀q,Ax u q iO->VW J Bs q->Bg qz tu J N 163 #[iI tb,x7 p] q λW m=>Ax q m iO/\VW J Bs m/\W=my #[x.val,iL en]:=λq hk hW=>by
  refine Bp (Gl (f:=163) Ae hW (X:=λ_=>False) (R:=λW _=>W=my #[x.val,iL en]) (λ_ _ Z=>Z) λO Y=>?_) λW m Z=>⟨Z.1,Z.2.1,let⟨_,_,_,Z⟩:=Z.2.2;Z⟩;exact(HF O ((V.ht.kx hk id id).sim Y V.4 V.nm) ((C.kx hk hW λ_ Z=>Z.elim).glob Y)).mono λa7 m Z=>⟨⟨_,Z.1,iP⟩,B5 Z.2⟩
 have rl:=ltOf G;have vl:=ltOf al;refine KT (i:=6) (j:=10) Ab ?_ ?_
 ·refine NB (HC (u.at j) ((Ax.refl _ _).at j) (C.W.at j)) iP Ac iP Af ?_;rintro W B⟨z,L,rfl⟩;have K:Ax u B iO:=((Ax.refl u _).at j).trans z;refine⟨Jg.kx D z id id,?_⟩;walk_nrm;have n:=Jg.kx D z id id;refine A9.tp 7 d f n ?_;walk_nrm;refine A9.tp 8 d f n ?_;walk_nrm;refine A9.tp 9 d f n ?_;walk_nrm;refine Ar6 λw a6 a1=>?_;refine AM (S:=env Lv) (fn:=0) d f iP Ac (B7 Ab) (A4 _ _) (x:=w9 (ni ⟨ldj (ain B),0,su⟩)) (v':=lbx B (jf Nd.zero.cs 87)) (λg=>p8 Kx) Ai5 (Jg.kx n w id id) ?_;walk_nrm;generalize B.alloc (jf Nd.zero.cs 87)=v at w a6 a1⊢;have nn:¬Bs B.1.size:=λZ=>by have:=L.lt Z;omega
  have aa:=K.trans w;have S:=Jg.kx n w id id;have E:=Ub (J:=J) (x:=x) a1 (λP Z=>nn (C.W.2 _ Z));have H:=Nn a1 x;have A:Ax v (putN v B.1.size x) (· = iS B.1):=Ax.of_grown H.grown (p8 iP);have aj:¬rb=iS B.1:=λZ=>by have h2:=K.size;omega
  have ak:¬svb=iS B.1:=λZ=>by have h2:=K.size;omega
  have U:=Jg.kx S A aj ak;refine Rb (i:=11) (S:=env Lv) (fn:=0) (x:=uw) (v':=putN v B.1.size x) d f Ab iP Ac (B7 Ab) (A4 _ _) (E _ iP _ Ac Ac).1 (E _ iP _ Ac Ac).2 U ?_;walk_nrm;refine A9.tp 12 d f U ?_;walk_nrm;have X:Ax u (putN v B.1.size x) iO:=aa.trans' A λi hi Ig=>by have h2:=K.size;omega
  exact A9.all Ab ⟨iP,_,Afv iP,K.size,H.blk,X,a6.putN _ _⟩ _
 ·have z:=(Ba (u.at j) Nd.zero.cs 87 iO);have L:=(C.W.at j).alloc Nd.zero.cs 87;have ab:((u.at j).alloc (jf Nd.zero.cs 87)).1[(u.at j).1.size]?=ni (jf Nd.zero.cs 87):=sx _ _;have n:=Jg.kx D z id id;refine AM (S:=env Lv) (fn:=0) d f iP Ac (B7 Ab) (A4 _ _) (x:=w9 (ni ⟨ldj (ain (u.at j)),0,su⟩)) (v':=lbx (u.at j) (jf Nd.zero.cs 87)) (λg=>p8 Kx) Ai5 n ?_;walk_nrm;have nn:¬Bs (u.at j).1.size:=λZ=>by have:=(C.W.at j).lt Z;omega
  have K:Ax u ((u.at j).alloc (jf Nd.zero.cs 87)) iO:=((Ax.refl u _).at j).trans z;generalize (u.at j).alloc (jf Nd.zero.cs 87)=B at z L ab n K⊢;refine Ca (i:=6) (HC B K L) Ab iP Ac iP Af ?_;rintro W v⟨w,a6,rfl⟩;refine⟨Jg.kx n w id id,?_⟩;walk_nrm;have S:=Jg.kx n w id id;refine A9.tp 7 d f S ?_;walk_nrm;refine A9.tp 8 d f S ?_;walk_nrm;refine A9.tp 9 d f S ?_;walk_nrm;have aa:=K.trans w;have a1:=w.get ab id;have ad:iS u.1<=(u.at j).1.size:=aB _;have E:=Ub (J:=J) (x:=x) a1 (λP Z=>nn (C.W.2 _ Z));have H:=Nn a1 x;have A:Ax v (putN v (u.at j).1.size x) (· = (u.at j).1.size):=Ax.of_grown H.grown (p8 iP);have aj:¬rb=(u.at j).1.size:=λZ=>Aa;have ak:¬svb=(u.at j).1.size:=λZ=>Aa;have U:=Jg.kx S A aj ak;refine Rb (i:=11) (S:=env Lv) (fn:=0) (x:=uw) (v':=putN v (u.at j).1.size x) d f Ab iP Ac (B7 Ab) (A4 _ _) (E _ iP _ Ac Ac).1 (E _ iP _ Ac Ac).2 U ?_;walk_nrm;refine A9.tp 12 d f U ?_;walk_nrm;have X:Ax u (putN v (u.at j).1.size x) iO:=aa.trans' A λi hi Ig=>Aa;exact A9.all Ab ⟨iP,_,Afv iP,ad,H.blk,X,a6.putN _ _⟩ _
def Ss(sn:Int)(kind:Nat)(pa:hU)(wt:Bool)(en:Int)(ks:iC):List I:=
 if(wt&&(en==0||(kind==5&&en==10)))=tu then V3 ks (Gp sn pa (if kind=6 then 1 else 0)) else ks
def At6(rb:Nat)(rc:iB)(svb:Nat)(vc:iB)(sb:Nat)(sn:Int)(w:T):Prop:=Jg rb rc 131 svb vc w/\w.cell? (iJ sb)=ni (iL sn)
def At6.at{rb rc svb vc sb sn}(w d)(h:At6 rb rc svb vc sb sn w):At6 rb rc svb vc sb sn (w.at d):=h
def lookW(C:Cx F y J Bs u){tb j i num}(V:GN Bs u svb a tb t M sm j i num r){b v c d}(S:Gm h J Bs u sb sn b v c d)(k)(e:Ld u M k)(H:¬Bs M)(ad:(pkj yi sn).wf=tu)(kind:Nat)(O:kind=4∨kind=5∨kind=6)(m g l n K x)(ae:g.size<=1000)(rb)(a7:u.1[rb]?=ni (jf (A7 kind m g l n K x) 131))(nr:¬Bs rb)(z en s):Hj qz tu J N 121 lkB (λA a' B=>A=.normal/\(∃W,a'=LK svb sb (J7 kind m g l n K x) rb z en W)/\Ax u B (· = M)/\VW J Bs B/\Ld B M (Ss sn kind g x en k)) (LK svb sb (J7 kind m g l n K x) rb z en s) u:=by
 have U:∀p,¬J (.cell (iK rb p)):=λp Z=>nr (C.W.2 _ Z);have ao:∀p,¬J (.cell (iK svb p)):=λp Z=>V.nv (C.W.2 _ Z);have j0:=S.j 0 Ae Ae;have rl:=ltOf a7;have af:∀P,J (.obj P)->¬P=M:=λP hr Z=>by
  exact Oyb
 unfold lkB LK;simp only[f121];cases x with
 |false=>
  refine Rxn ?_;refine V2g ?_;refine Bq (cellOf (j:=6) a7 iP) (U 6) ?_;walk_nrm;refine V2g ?_;refine Fi4 ?_;walk_nrm;refine Fi4 ?_;walk_nrm;refine Fi4 ?_;walk_nrm;refine Fi4 ?_;walk_nrm;refine Kbk ?_;refine Zln ?_;refine Nqc ?_;exact⟨trivial,Afv iP,Ax.refl _ _,C.W,by simpa[Ss] using e⟩
 |true=>
 refine Rxn ?_;refine V2g ?_;refine Bq (cellOf (j:=6) a7 iP) (U 6) ?_;walk_nrm;refine Wad ?_;refine Bq (cellOf (j:=0) a7 iP) (U 0) ?_;walk_nrm;refine V2g ?_;refine A3 (Gl (f:=164) (args:=#[iL kind,iL en]) Ae C.W (X:=λ_=>False) (R:=λq _=>q=vp (en==0||((kind:Int)==5&&en==10))) (λ_ _ Z=>Z) λE Q=>(MP E kind en).mono λA B Z=>⟨⟨_,Z.1,iP⟩,by rw[Z.2];exact Ax.refl _ _⟩) iP Ac iP Af ?_;rintro q G⟨I,W3,L3,av,aw,rfl⟩;walk_nrm;have ah:((kind:Int)==5)=(kind==5):=by rcases O with rfl|rfl|rfl<;>rfl
 rw[ah];unfold Ss;rw[gJ];generalize ax:(en==0||(kind==5&&en==10))=mw;cases mw with
 |false=>
  refine Kbk ?_;refine Zln ?_;refine Nqc ?_;exact⟨trivial,Afv iP,I.mono λ_ Z=>Z.elim,W3,by simpa using e.keep (I.block _ (Bl.lt e) id)⟩
 |true=>
 refine Bom ?_;refine Od4 ?_;have ai:=I.get a7 id;have aj:=I.get V.1 id;have a8:Ld G M k:=e.keep (I.block _ (Bl.lt e) id);have S3:=S.kx I id λ_ _=>id;have ak:¬rb=M:=λZ=>D7 e a7 Z.symm;have w:=At6.at (rb:=rb) (rc:=A7 kind m g l n K tu) (svb:=svb) (vc:=B9 a tb M sm j i) (sb:=sb) (sn:=sn);refine Em (I:=At6 rb (A7 kind m g l n K tu) svb (B9 a tb M sm j i) sb sn) Ac λR=>?_;have T:∀(Y:Act)(f:qg)(o:Nat),(cxv=cxv/\(∃W,Y=LK svb sb (J7 kind m g l n K tu) rb z en W)/\Ax u f (· = M)/\VW J Bs f/\Ld f M (if tu=tu then V3 k (Gp sn g (if kind=6 then 1 else 0)) else k))->(cxv=cxv/\(∃W,Y=LK svb sb (J7 kind m g l n K tu) rb z en W)/\Ax u (f.at o) (· = M)/\VW J Bs (f.at o)/\Ld (f.at o) M (if tu=tu then V3 k (Gp sn g (if kind=6 then 1 else 0)) else k)):=λY f o⟨h0,h1,h2,h3,h4⟩=>⟨h0,h1,h2.at o,h3.at o,h4.keep iP⟩;have L:At6 rb (A7 kind m g l n K tu) svb (B9 a tb M sm j i) sb sn (G.at R):=⟨⟨ai,aj⟩,S3.cell.1⟩;refine Ogs ?_;refine A9.tp 4 w T L ?_;walk_nrm;refine A9.tp 5 w T L ?_;walk_nrm;refine A9.tp 6 w T L ?_;walk_nrm;refine A9.tp 8 w T L ?_;walk_nrm;refine A9.tp 10 w T L ?_;walk_nrm;refine A9.tl 3 w T L (λf (e:At6 _ _ _ _ _ _ f)=>(cellOf (j:=2) e.1.2 iP:f.cell? (iK svb 2)=ni (.map (ni M)))) (ao 2) ?_;walk_nrm;refine A9.tl 7 w T L (λf (e:At6 _ _ _ _ _ _ f)=>(e.2:f.cell? (iJ sb)=ni (iL sn))) j0 ?_;walk_nrm;refine A9.tl 9 w T L (λf (e:At6 _ _ _ _ _ _ f)=>(cellOf (j:=2) e.1.1 iP:f.cell? (iK rb 2)=ni (x7 g))) (U 2) ?_;walk_nrm;refine A9.tl 11 w T L (λf (e:At6 _ _ _ _ _ _ f)=>(cellOf (j:=0) e.1.1 iP:f.cell? (iJ rb)=ni (iL kind))) (U 0) ?_;walk_nrm;refine Ca (i:=12) (Gl (f:=166) (args:=#[iL kind]) Ae (W3.at R) (X:=λ_=>False) (R:=λq _=>q=iL (if kind=6 then 1 else 0)) (λ_ _ Z=>Z) λE Q=>(TW E kind).mono λA B Z=>⟨⟨_,Z.1,by rcases O with rfl|rfl|rfl<;>rfl⟩,by rw[Z.2];exact Ax.refl _ _⟩) Ab iP Ac iP Af ?_;rintro q u4⟨aa,W4,L4,ay,az,rfl⟩;have X:Ax G u4 iO:=((Ax.refl G _).at R).trans aa;have S4:=S3.kx X id λ_ _=>id;have a1:At6 rb (A7 kind m g l n K tu) svb (B9 a tb M sm j i) sb sn u4:=⟨L.1.kx aa id id,S4.cell.1⟩;refine⟨a1,?_⟩;walk_nrm;refine A9.tp 13 w T a1 ?_;walk_nrm;have ab:Ld u4 M k:=a8.keep (X.block _ (Bl.lt a8) id);have al:(pkj yi (if kind=6 then 1 else 0:Int)).wf=tu:=by rcases O with rfl|rfl|rfl<;>decide
 refine Ca (i:=14) (Gl (f:=165) (args:=#[.map (ni M),Gp sn g (if kind=6 then 1 else 0)]) Ae W4 (X:=(· = M)) (R:=λq B=>q=my #[]/\Ld B M (V3 k (Gp sn g (if kind=6 then 1 else 0)))) af λE Q=>(Aj3 (ab.keep (Q.same H)) ad al ae).mono λA B Z=>⟨⟨_,Z.1,iP,Z.2.1⟩,Z.2.2⟩) Ab iP Ac iP Af ?_;rintro q u5⟨a6,W5,b5,an,b6,rfl,aq⟩;have ar:Ld u5 M (V3 k (Gp sn g (if kind=6 then 1 else 0))):=aq.keep (an _ H).symm;have S5:=S4.kx a6 (λZ=>H (Z▸S.inb)) λb8 hg Z=>by
  subst Z;obtain⟨es,cl,D⟩:=Bl.obj ab;exact Gt S4.own D Ad hg
 have au:At6 rb (A7 kind m g l n K tu) svb (B9 a tb M sm j i) sb sn u5:=⟨a1.1.kx a6 ak (λZ=>D7 e V.1 Z.symm),S5.cell.1⟩;refine⟨au,?_⟩;walk_nrm;exact A9.all Ab ⟨iP,Afv iP,((I.trans X).mono λ_ Z=>Z.elim).trans a6,W5,by simpa using ar⟩ _
end
def AB(kind:Nat)(m z:Int)(x:Nd)(L:gX):hQ:=
 if kind=4 then E m 4++E z 8++E 0 4++E x.data.size 4++x.data.data.toList++E x.made 8++E x.changed 8++E x.version 4++E (iR L:Nat) 4
 else if kind=5 then E m 4++E z 8++E 0 4++E x.made 8++E x.changed 8++E x.version 4++E (iR L:Nat) 4
 else E m 4++E z 8++E 0 4++E (iR L) 4++txB L
def AA(kind:Nat)(m z:Int)(x:Nd)(en:Int)(L:gX):hQ:=if en=0 then CP (AB kind m z x L) else We m z en
def lkF:Code:=match f121.body with|some (.seq _ (.seq _ (.seq _ (.seq _ (.seq _ (.seq _ c))))))=>c|_=>.skip
section
variable {J:hZ}
def DN.own{z G V t}{X:iC}(h:DN P j rt z G V x w)(K:Ax w B (λi=>i=D∨t.ownBlock=ni i))(O:w.ownsRow 0 5 1 t n X)(C:P≠D)(J:z≠D)(T:V≠D)(a:rt≠5):=
 h.kx K (λe=>e.elim C (Gt O h.1.1 (λc e=>by cases e;exact a iP))) (λe=>e.elim J (Gt O h.1.2 Ad)) (λe=>e.elim T (Gt O h.2 Ad))
def At7(rb:Nat)(rc:iB)(rt:TypeId)(svb:Nat)(vc:iB)(nb:Nat)(x:Nd)(sb:Nat)(w:T):Prop:=DN rb rc rt svb vc nb x w/\w.cell? (iK sb 3)=ni (iL 1)
def At7.at{rb rc rt svb vc nb x sb}(w d)(h:At7 rb rc rt svb vc nb x sb w):At7 rb rc rt svb vc nb x sb (w.at d):=h
def Aom(aq:Im z F)(C:Cx F y J Bs u){c tb I G num}(V:GN Bs u svb c tb g M sm I G num r){v t f}(S:Gm h J Bs u sb H 1 v t f)(ar:iR f<=10000000000)(kind:Nat)(hk:kind=4∨kind=5∨kind=6)(m)(ab:-2147483648<=m)(ae:m<=2147483647)(j d n K k rb)(al:u.1[rb]?=ni (jf (A7 kind m j d n K k) 131))(nr:¬Bs rb)(nb x)(hn:u.1[nb]?=ni (jf x.cs 87))(nn:¬Bs nb)(hx:0<=x.made/\x.made<=num/\0<=x.changed/\x.changed<=num/\0<=x.version/\x.version<=2147483647)(b6:x.data.size<=40)(L:gX)(hL:iR L<=32)(au:∀s∈L,s.size<=24/\z s=tu)(ca:iE)(cc)(az:∀ak (hj:ak<iR L),∃ai an,ca=ni (iK ai an)/\ai<iS u.1/\¬Bs ai/\u.cell? ⟨ai,an+ak,su⟩=ni (x7 L[ak]))(s)(b5:s 57=iL kind):Hj qz tu J N 121 lkF (λe a' B=>(e=.normal∨e=.ret)/\a'.defers = []/\Told h J Bs u B sb H 1 v t f (CP (AB kind m num x L))) (LC svb sb (J7 kind m j d n K k) rb nb 0 ca (iR L) cc s) u:=by
 have U:∀p,¬J (.cell (iK rb p)):=λp Z=>nr (C.W.2 _ Z);have ao:∀p,¬J (.cell (iK nb p)):=λp Z=>nn (C.W.2 _ Z);have j3:=S.j 3 Ae Ae;have rl:=ltOf al;have nl:=ltOf hn;have av:=Gt S.own V.1 Ad;have Ig:=S.lt;obtain⟨n1,n2,n3,n4,n5,n6⟩:=hx;have z1:=V.6;have z2:=V.z2;have aw:rb≠sb:=λZ=>nr (Z▸S.inb);have ax:svb≠sb:=λZ=>V.nv (Z▸S.inb);have ay:nb≠sb:=λZ=>nn (Z▸S.inb);unfold lkF LC;simp only[f121,b5];have a6:=DN.at (rb:=rb) (rc:=A7 kind m j d n K k) (rt:=131) (svb:=svb) (vc:=B9 c tb M sm I G) (nb:=nb) (x:=x);have T:∀(a:Act)(q:qg)(o:Nat),((cxv=cxv∨cxv=Exit.ret)/\a.defers = []/\Told h J Bs u q sb H 1 v t f (CP (AB kind m num x L)))->((cxv=cxv∨cxv=Exit.ret)/\a.defers = []/\Told h J Bs u (q.at o) sb H 1 v t f (CP (AB kind m num x L))):=λa q o⟨h1,h2,h3⟩=>⟨h1,h2,h3.at o⟩;rcases hk with rfl|rfl|rfl
 ·
  refine Du ?_;refine Rxn ?_;refine Bom ?_;refine Ths ?_;refine E37 ?_;have w:=At7.at (rb:=rb) (rc:=A7 4 m j d n K k) (rt:=131) (svb:=svb) (vc:=B9 c tb M sm I G) (nb:=nb) (x:=x) (sb:=sb);refine Em (I:=At7 rb (A7 4 m j d n K k) 131 svb (B9 c tb M sm I G) nb x sb) Ac λA=>?_;have D:At7 rb (A7 4 m j d n K k) 131 svb (B9 c tb M sm I G) nb x sb (u.at A):=⟨⟨⟨al,V.1⟩,hn⟩,S.cell.2.1⟩;refine A9.tp 0 w T D ?_;walk_nrm;refine A9.tp 1 w T D ?_;walk_nrm;refine A9.tp 3 w T D ?_;walk_nrm;refine A9.tp 4 w T D ?_;walk_nrm;refine A9.tp 5 w T D ?_;walk_nrm;refine A9.tp 8 w T D ?_;walk_nrm;refine A9.tp 9 w T D ?_;walk_nrm;refine A9.tl 6 w T D (λq (P:At7 _ _ _ _ _ _ _ _ q)=>(P.2:q.cell? (iK sb 3)=ni (iL 1))) j3 ?_;walk_nrm;refine A9.take (i:=2) (x:=(J7 4 m j d n K k)) w T iP Ab Ab Ab (Gq (S:=env Lv) Ac (B7 (fn:=0) Ab) (A4 _ _) ?_) D ?_
  ·exact λq P=>Ju P.1.1.1 U _ _ iP _ Ac
  walk_nrm;refine A9.take (i:=7) (x:=(x.val)) w T iP Ab Ab Ab (Gq (S:=env Lv) Ac (B7 (fn:=0) Ab) (A4 _ _) ?_) D ?_
  ·exact λq P=>IJ P.1.2 ao _ _ iP _ Ac
  walk_nrm;refine Ca (i:=10) (MJ (f:=168) (args:=#[iL 1,x.val,iL (iR L:Nat)]) Ae (C.W.at A) (X:=λ_=>False) (R:=λW B=>D9 B (λb=>b<iS B.1) [txt x.data,.mk 0 iN [Orch.num x.made,Orch.num x.changed,Orch.num x.version,Orch.num (iR L:Nat)]] W) (λ_ _ Z=>Z) λO Y=>(QG O x.path x.data x.note x.made x.changed x.version (iR L:Nat)).mono λe B Z=>⟨Z.1,B5 Z.2⟩) Ab iP Ac iP Af ?_;rintro lv u7⟨X,a8,L7,aa,ad,af,ah⟩;have l:Ax u u7 iO:=((Ax.refl u _).at A).trans X;have a7:=S.kx l id λ_ _=>id;have R:At7 rb (A7 4 m j d n K k) 131 svb (B9 c tb M sm I G) nb x sb u7:=⟨D.1.kx X id id id,a7.cell.2.1⟩;refine⟨R,?_⟩;walk_nrm;have C7:=C.kx l a8 λi Z=>Z.elim;have a1:=puts_get z (m:=m) (z:=num) (e:=0) (s:=x.data) (a:=x.made) (b:=x.changed) (c:=x.version) (d:=(iR L:Nat)) ab ae z1 z2 Ae Ae Aa Aa Aa Aa Aa Aa Aa Aa Aa;have aj:iR x.data.data.toList=x.data.size:=iP;refine Ca (i:=11) (On aq C7 a7 ar (V.kx l id id id) av 4 Ae m j d n K k _ (λL hL=>hL.11) [txt x.data,.mk 0 iN [Orch.num x.made,Orch.num x.changed,Orch.num x.version,Orch.num (iR L:Nat)]] lv Ad Ad (Vv aa ad af ah) _ parse_get _ a1 D2 HA) Ab iP Ac iP Ap ?_;rintro W Q⟨rfl,E⟩;obtain⟨b7,S8,_⟩:=E.S;refine⟨⟨R.1.own E.K a7.own aw ax ay Ae,S8.cell.2.1⟩,?_⟩;walk_nrm;exact A9.all Ab ⟨p8 iP,iP,E.from l Ig⟩ _
 ·
  refine Du ?_;refine Rxn ?_;refine Kbk ?_;refine Ths ?_;refine Wv1 ?_;refine Rxn ?_;refine Bom ?_;refine Ths ?_;refine E37 ?_;refine Em (I:=DN rb (A7 5 m j d n K k) 131 svb (B9 c tb M sm I G) nb x) Ac λA=>?_;have D:DN rb (A7 5 m j d n K k) 131 svb (B9 c tb M sm I G) nb x (u.at A):=⟨⟨al,V.1⟩,hn⟩;refine A9.tp 0 a6 T D ?_;walk_nrm;refine A9.tp 1 a6 T D ?_;walk_nrm;refine A9.tp 4 a6 T D ?_;walk_nrm;refine A9.tp 5 a6 T D ?_;walk_nrm;refine A9.take (i:=2) (x:=(J7 5 m j d n K k)) a6 T iP Ab Ab Ab (Gq (S:=env Lv) Ac (B7 (fn:=0) Ab) (A4 _ _) ?_) D ?_
  ·exact λq P=>Ju P.1.1 U _ _ iP _ Ac
  walk_nrm;refine A9.take (i:=3) (x:=(x.val)) a6 T iP Ab Ab Ab (Gq (S:=env Lv) Ac (B7 (fn:=0) Ab) (A4 _ _) ?_) D ?_
  ·exact λq P=>IJ P.2 ao _ _ iP _ Ac
  walk_nrm;refine Ca (i:=6) (MJ (f:=169) (args:=#[x.val,iL (iR L:Nat)]) Ae (C.W.at A) (X:=λ_=>False) (R:=λW B=>D9 B (λb=>b<iS B.1) [.mk 0 iN [Orch.num x.made,Orch.num x.changed,Orch.num x.version,Orch.num (iR L:Nat)]] W) (λ_ _ Z=>Z) λO Y=>(FR O x.path x.data x.note x.made x.changed x.version (iR L:Nat)).mono λe B Z=>⟨Z.1,B5 Z.2⟩) Ab iP Ac iP Af ?_;rintro lv u7⟨X,a8,L7,aa,ad,af,ah⟩;have R:=D.kx X id id id;refine⟨R,?_⟩;walk_nrm;have l:Ax u u7 iO:=((Ax.refl u _).at A).trans X;have C7:=C.kx l a8 λi Z=>Z.elim;have a7:=S.kx l id λ_ _=>id;have a1:=puts_state z (m:=m) (z:=num) (e:=0) (a:=x.made) (b:=x.changed) (c:=x.version) (d:=(iR L:Nat)) ab ae z1 z2 Ae Ae Aa Aa Aa Aa Aa Aa Aa Aa;refine Ca (i:=7) (On aq C7 a7 ar (V.kx l id id id) av 5 Ae m j d n K k _ (λL hL=>hL.17) [.mk 0 iN [Orch.num x.made,Orch.num x.changed,Orch.num x.version,Orch.num (iR L:Nat)]] lv Ad Ad (Vv aa ad af ah) _ parse_state _ a1 Ao Ao) Ab iP Ac iP Ap ?_;exact Xoc
 ·
  refine Du ?_;refine Rxn ?_;refine Kbk ?_;refine Ths ?_;refine Wv1 ?_;refine Rxn ?_;refine Kbk ?_;refine Ths ?_;refine Wv1 ?_;refine Em (I:=DN rb (A7 6 m j d n K k) 131 svb (B9 c tb M sm I G) nb x) Ac λA=>?_;have D:DN rb (A7 6 m j d n K k) 131 svb (B9 c tb M sm I G) nb x (u.at A):=⟨⟨al,V.1⟩,hn⟩;refine A9.tp 0 a6 T D ?_;walk_nrm;refine A9.tp 1 a6 T D ?_;walk_nrm;refine A9.tp 3 a6 T D ?_;walk_nrm;refine A9.take (i:=2) (x:=(J7 6 m j d n K k)) a6 T iP Ab Ab Ab (Gq (S:=env Lv) Ac (B7 (fn:=0) Ab) (A4 _ _) ?_) D ?_
  ·exact λq P=>Ju P.1.1 U _ _ iP _ Ac
  walk_nrm;refine Ca (i:=4) (MJ (f:=170) (args:=#[um ca (iR L) cc]) Ae (C.W.at A) (X:=λ_=>False) (R:=λW B=>D9 B (λb=>b<iS B.1) [.mk 0 iN (L.map txt)] W) (λ_ _ Z=>Z) λO Y=>(Adj O ca cc L Aa λak hj=>let⟨ai,an,h1,h2,h3,h4⟩:=az ak hj;⟨ai,an,h1,by rw[Y.size];exact h2,(Ce (Y.same h3)).trans h4⟩).mono λe B Z=>⟨Z.1,B5 Z.2⟩) Ab iP Ac iP Af ?_;rintro lv u7⟨X,a8,L7,aa,ad,af,ah⟩;have R:=D.kx X id id id;refine⟨R,?_⟩;walk_nrm;have l:Ax u u7 iO:=((Ax.refl u _).at A).trans X;have C7:=C.kx l a8 λi Z=>Z.elim;have a7:=S.kx l id λ_ _=>id;have b8:=VX λs Y=>(au s Y).1;have a1:=puts_list z (m:=m) (z:=num) (e:=0) (L:=L) ab ae z1 z2 Ae Ae hL (λs Y=>⟨by have:=(au s Y).1;omega,(au s Y).2⟩) Aa;refine Ca (i:=5) (On aq C7 a7 ar (V.kx l id id id) av 6 Ae m j d n K k _ (λL hL=>hL.12) [.mk 0 iN (L.map txt)] lv Ad Ad (Vv aa ad af ah) _ parse_list _ a1 D2 D2) Ab iP Ac iP Ap ?_;exact Xoc
def Amw{svb sb r rb a c}(h:a=L5 svb sb r rb (λj=>a.tmps.getD j uw))(H:∀s,Hj Z tu J N 121 c Q (L5 svb sb r rb s) w):Hj Z tu J N 121 c Q a w:=by
 rw[h];exact H _
def Amx{svb sb r rb nb en ca ck cc x57 a c}(h:a=LC svb sb r rb nb en ca ck cc (λj=>a.tmps.getD j uw))(k:a.tmps.getD 57 uw=x57)(H:∀s,s 57=x57->Hj Z tu J N 121 c Q (LC svb sb r rb nb en ca ck cc s) w):Hj Z tu J N 121 c Q a w:=by
 grind
def Aon(az:Im z F)(C:Cx F y J Bs u){tb O g num ns}(V:GN Bs u svb b tb t M sm O g num ns){v c a}(S:Gm h J Bs u sb H 1 v c a)(ak:iR a<=10000000000)(tk:Pm num ns)(tn:TrN z ns)(f)(d:Ld u M f)(nw:¬Bs M)(gw:y<=M)(ax:M≠t)(ay:(pkj yi H).wf=tu)(kind:Nat)(hk:kind=4∨kind=5∨kind=6)(B)(b5:-2147483648<=B)(b6:B<=2147483647)(p o n K k)(b9:p.size<=1000)(x en)(bd:-2147483648<=en)(al:en<=2147483647)(br:en=0->(p,x)∈ns)(HF:∀e,Cj e tb t num ns->V0 F y e->Calls qz 163 #[iI tb,x7 p] e λai m=>ai=xr (my #[x.val,iL en])/\iM e m):Bg qz tu J N 121 #[iI svb,iI sb,J7 kind B p o n K k] u λW u'=>W=my #[]/\VW J Bs u'/\Ld u' M (Ss H kind p k en f)/\∃q,Ax u q (· = M)/\Told h J Bs q u' sb H 1 v c a (AA kind B num x en (kids p ns)):=by
 have ab:¬Bs u.1.size:=λZ=>by have:=C.W.lt Z;omega
 have U:∀P,¬J (.cell (iK u.1.size P)):=λP Z=>ab (C.W.2 _ Z);have jv:∀P,¬J (.cell (iK svb P)):=λP Z=>V.nv (C.W.2 _ Z);have av:=Bl.lt d;refine Bh func121 Ac iP (R:=λ_=>my #[]) (λ_ _=>pqk Ac _ _ _) (λ_ _=>kmq Ac _ _) ?_;simp only[ntmps121,na,Nat.reduceAdd,Nat.reduceSub];refine Vwr λu1 X af Y=>?_;have a6:=C.kx X af λ_ Z=>Z.elim;have V1:=V.kx X id id id;refine Aw ?_;refine Amw (svb:=svb) (sb:=sb) (r:=J7 kind B p o n K k) (rb:=iS u.1) iP λs1=>?_;refine Cr (Aol a6 V1 sb kind B p o n K k u.1.size Y ab x en HF s1) ?_;rintro e1 bx u2⟨rfl,nb,⟨s2,rfl⟩,bz,ba,an,W2⟩;simp only[A0];have E:=X.trans an;have C2:=C.kx E W2 λ_ Z=>Z.elim;have V2:=V.kx E id id id;have S2:=S.kx E id λ_ _=>id;have ao:=an.get Y id;have bb:Ld u2 M f:=d.keep (E.block _ av id);refine Aw (Cr (lookW C2 V2 S2 f bb nw ay kind hk B p o n K k b9 u.1.size ao ab nb en s2) ?_);rintro e2 a2 q⟨rfl,⟨s3,rfl⟩,a7,L,G⟩;simp only[A0];have A:Ax u q (· = M):=(E.mono λ_ Z=>Z.elim).trans a7;have bf:=C.kx A L λi Z=>by rw[Z];exact gw
 have a8:=V.kx A (λZ=>D7 d V.1 Z.symm) (λZ=>D7 d V.ht.blk Z.symm) (λZ=>ax Z.symm);have b7:=S.kx A (λZ=>nw (Z▸S.inb)) λr b8 Z=>by
  subst Z;obtain⟨es,cl,I⟩:=Bl.obj d;exact Gt S.own I Ad b8
 have au:q.1[iS u.1]?=ni (jf (A7 kind B p o n K k) 131):=a7.get ao (λZ=>Aa);have nn:¬Bs nb:=λZ=>by have h1:=C.W.lt Z;have h2:=X.size;omega
 have bh:¬nb=M:=λZ=>by have h2:=X.size;omega
 have bj:=a7.get ba bh;have bk:=Gt b7.own a8.1 Ad;unfold LK;refine M8j ?_;refine Mwc ?_;by_cases h0:en=0
 case neg=>
  refine Bom ?_;refine Od4 ?_;refine Rxn ?_;refine Wad ?_;refine Cy (S:=env Lv) (fn:=121) iP Ac (B7 Ab) (A4 _ _) (x:=J7 kind B p o n K k) (v':=q) (λd'=>(Ju (J:=J) (w:=q.at d') au U _ _ iP _ Ac).1) (λd'=>(Ju (J:=J) (w:=q.at d') au U _ _ iP _ Ac).2) ?_;walk_nrm;refine V2g ?_;refine A3 (VL az bf b7 ak a8 bk kind B p o n K k en b5 b6 bd al) iP Ac iP Af ?_;rintro W ae⟨rfl,ad⟩;walk_nrm;refine Vj2 ?_;refine Dm ⟨n9 iP,iP,trivial,ad.W,G.keep (ad.K.block _ (Bl.lt G) ?_),q,A,?_⟩
  ·rintro(Z|Z)
   ·exact nw (Z▸S.inb)
   ·obtain⟨es,cl,I⟩:=Bl.obj G;exact Gt b7.own I Ad Z
  ·rw[AA,aL h0];exact ad
 case pos=>
 subst h0;have hx:=br iP;refine Kbk ?_;refine Zln ?_;refine Nqc ?_;refine Aw ?_;have l:=Jg.at (rb:=iS u.1) (rc:=A7 kind B p o n K k) (rt:=131) (svb:=svb) (vc:=B9 b tb M sm O g);refine Em (I:=Jg u.1.size (A7 kind B p o n K k) 131 svb (B9 b tb M sm O g)) Ac λQ=>?_;have T:Jg u.1.size (A7 kind B p o n K k) 131 svb (B9 b tb M sm O g) (q.at Q):=⟨au,a8.1⟩;refine S70 ?_;refine A9.tl 3 l Am4 T (λw (d:Jg _ _ _ _ _ w)=>(cellOf (j:=1) d.2 iP:w.cell? (iK svb 1)=ni (iI tb))) (jv 1) ?_;walk_nrm;refine A9.tl 5 l Am4 T (λw (d:Jg _ _ _ _ _ w)=>(cellOf (j:=2) d.1 iP:w.cell? (iK u.1.size 2)=ni (x7 p))) (U 2) ?_;walk_nrm;refine Ca (i:=6) (Gl (f:=167) (args:=#[iI tb,x7 p]) Ae (L.at Q) (X:=λ_=>False) (R:=λW m=>m.ownsRow q.1.size 9 1 W (kids p ns).length (strs (kids p ns))) (λ_ _ Z=>Z) λe hs=>(P4 e tb t num ns ((a8.ht.at Q).sim hs V.4 V.nm) p (by have:=tk.len;omega) tk.size).mono λai m Z=>⟨let⟨v',h1,h2⟩:=Z.1;⟨v',h1,by rw[hs.size]at h2;exact h2⟩,B5 Z.2⟩) Ab iP Ac iP Af ?_;rintro W ae⟨ar,W6,L6,bc,bm,bg⟩;have R:=T.kx ar id id;refine⟨R,?_⟩;have ck:iS q.1<=(q.at Q).1.size:=aB _;have ah:ae.ownsRow q.1.size 9 1 W (kids p ns).length (strs (kids p ns)):=Hg bg λr b8 _=>(bc r λhB=>by have:=L.lt hB;omega).symm
 obtain⟨ca,cc,rfl⟩:=AN ah;walk_nrm;refine A9.tp 7 l Am4 R ?_;walk_nrm;refine E43 ?_;have D:Ax q ae iO:=((Ax.refl q _).at Q).trans ar;have bn:Ax u ae (· = M):=A.trans (D.mono λ_ Z=>Z.elim);have C6:=bf.kx D W6 λ_ Z=>Z.elim;have V6:=a8.kx D id id id;have S6:=b7.kx D id λ_ _=>id;have bo:=D.get bj id;have aa:Ld ae M (Ss H kind p k 0 f):=G.keep (D.block _ (Bl.lt G) id);have c6:=Z5 (path:=p) (ns:=ns);have c7:=tk.len;refine Rxn ?_;refine V2g ?_;refine Bq (cellOf (j:=0) R.1 iP) (U 0) ?_;walk_nrm;refine Vj2 ?_;refine Amx (svb:=svb) (sb:=sb) (r:=J7 kind B p o n K k) (rb:=iS u.1) (nb:=nb) (en:=0) (ca:=ca) (ck:=(kids p ns).length) (cc:=cc) (x57:=iL kind) iP iP λs4 bq=>?_;refine Cr (Aom az C6 V6 S6 ak kind hk B b5 b6 p o n K k u.1.size R.1 ab nb x bo nn (tk.node _ hx) (tn.nm _ hx).2.2 (kids p ns) Aa (λs hs=>?_) ca cc (λj aj=>?_) s4 bq) ?_
 ·obtain⟨aq,hq,rfl⟩:=MD hs;exact⟨(tn.nm aq hq).1,(tn.nm aq hq).2.1⟩
 ·rcases ah with⟨_,⟨Z,h'⟩|⟨r,c8,bu,bw,c9,aw,h1,h2,h3,h4⟩⟩
  ·omega
  ·injection bw with e1 e2 e3;subst e1;refine⟨r,0,iP,ltOf aw,λhB=>by have:=L.lt hB;omega,?_⟩;have a1:(bu.toList.take ((kids p ns).length * 1))[j]?=ni (x7 (kids p ns)[j]):=by
    rw[h4];simp[strs,aG aj]
   rw[dE Aa,cN]at a1;rw[aY];exact cellOf aw a1
 ·rintro e3 a3 u8⟨he,hd,T8⟩;refine⟨he,hd,trivial,T8.W,aa.keep (T8.K.block _ (Bl.lt aa) ?_),ae,bn,?_⟩
  ·rintro(Z|Z)
   ·exact nw (Z▸S.inb)
   ·obtain⟨es,cl,I⟩:=Bl.obj aa;exact Gt S6.own I Ad Z
  ·rw[AA,aJ iP];exact T8
end
def Ir(w:T)(g)(cs:iB)(h:w.1[g]?=ni (jf cs 5))(i):(w.freeze ⟨g,cs.size,su⟩ 1).1[i]?=if i=g then ni (jf cs 5 (cs.size,cs.size+1)) else w.1[i]?:=by
 by_cases e:i=g
 ·subst e;simp[uzk,bS,h]
 ·rw[aL e];simp[uzk,bS,dN e]
def Fz(w:T)(a):(w.freeze a 1).1.size=iS w.1:=by simp[uzk]
def Xt(w:T)(g)(cs:iB)(h:w.1[g]?=ni (jf cs 5))(a):(w.freeze ⟨g,cs.size,su⟩ 1).cell? a=w.cell? a:=by
 unfold sw;rw[Ir w g cs h]
 grind
section
variable {Y:PA y F} {j:FuncId} {a:Act} {g:Array Oper} {l:iG} {o:Oper} {c:Nat} {x:I}
def Ako{H J}{b:Frame}{k z}(O:∀d,¬J (.cell (iK c d)))(D:w.1[c]?=ni (jf cs 5))(v:cs≠#[])(y:∀n:Ren,cs.map (A1 n)=cs)(L:g[i]?=ni o)(ae:yg o (yielded g a.tmps)=tu)(Z:A1 (.up w.1.size) x=x)(S:b.kind≠.early)(U:∀n(W:qg),n.Fix prog.globals.size->W.1[sh n c]?=ni (jf cs 5)->(Fv a o n).run qz W=.ok (.value (A1 n x)) (W.freeze ⟨sh n c,cs.size,su⟩ 1)/\(Fv a o n).events qz W #[]=#[])(a1:∀M,EN qz H J (G (b.at (a.put o.dst x) (.inRegion g l::k)) z) ((w.freeze ⟨c,cs.size,su⟩ 1).at M)):EN qz H J (G (b.at a (.inRegion g (i::l)::k)) z) w:=by
 intro n W E s f;have p:W.1[sh n c]?=ni (jf cs 5):=by
  have:=s.row (i:=c) D v O;rw[this,y]
 have B:yg o (yielded g (Bw n a).tmps)=tu:=by
  exact Vj8
 refine Ends.step iP λM=>?_;obtain⟨r1,r2⟩:=U n (W.at M) s.fix p;have F:=stepG_value (P:=qz) (main:=tu) (b:=b) (a:=Bw n a) (rest:=l) (k:=k.map (Dg n)) (cs:=z.map (Bm n)) (w:=W.at M) L B S r1;rw[No,listed_nil r2]at F;refine⟨_,_,_,F,by rw[Fz];exact aB _,λe u=>by simp at u,?_⟩;rw[deafBehind_still λe u=>by simp at u];have X:∀d,((w.freeze ⟨c,cs.size,su⟩ 1).at M).1[d]?=if d=c then ni (jf cs 5 (cs.size,cs.size+1)) else w.1[d]?:=λd=>Ir w c cs D d
 have q:∀d,((W.at M).freeze ⟨sh n c,cs.size,su⟩ 1).1[d]?=if d=sh n c then ni (jf cs 5 (cs.size,cs.size+1)) else W.1[d]?:=λd=>Ir (W.at M) (sh n c) cs p d
 have af:Bn (.up w.1.size) (G (b.at (a.put o.dst x) (.inRegion g l::k)) z)=G (b.at (a.put o.dst x) (.inRegion g l::k)) z:=by
  have h:=s.wf.2;have a6:z.map (Bm (.up w.1.size))=z:=aK Goroutine.callers h;have Y:(Bw (.up w.1.size) a).defers=a.defers:=aK (λr:o5=>r.frame.defers) h;have K:((.inRegion g (i::l)::k:List Item).map (Dg (.up w.1.size)))=.inRegion g (i::l)::k:=aK (λr:o5=>r.frame.todo) h;have a7:k.map (Dg (.up w.1.size))=k:=by
   rw[bA]at K;exact(List.cons.inj K).2
  have e6:Bw (.up w.1.size) a=a:=by
   show Act.mk _ _=a;have:(Bw (.up w.1.size) a).tmps=a.tmps:=(aK (λr:o5=>r.frame.tmps) h);cases a;simp only[Bw]at this Y⊢;rw[this,Y]
  rw[Ep,Gu,a6,←No,e6,Z,bA,a7]
  rfl
 have aj:Dq qz n J (H.Own E) (G (b.at (a.put o.dst x) (.inRegion g l::k)) z) ((w.freeze ⟨c,cs.size,su⟩ 1).at M) ((W.at M).freeze ⟨sh n c,cs.size,su⟩ 1):=by
  refine Dq.recast (s.at M) (Fz _ _) (by rw[Fz];exact aB _) ((s.sm 0).tape) ?_ ((s.sm 0).os) ((s.sm 0).output) (Fz _ _) (λd ob Q=>?_) ⟨λd ob Q=>?_,?_⟩ λl R Q=>?_
  ·rfl
  ·rw[X]at Q;rw[q];split at Q
   ·rename_i e;subst e;obtain rfl:=aA Q;rw[aJ iP];exact⟨_,iP,p8 (by simp only[Dt];rw[y])⟩
   ·rename_i e;rw[aL λh=>e (Gx h)];exact(s.sm 0).4 d ob Q
  ·have N:((w.freeze ⟨c,cs.size,su⟩ 1).at M).1.size=iS w.1:=Fz _ _;rw[N];rw[X]at Q;split at Q
   ·obtain rfl:=aA Q;exact p8 (by simp only[Dt];rw[y])
   ·exact s.wf.mem d ob Q
  ·have N:((w.freeze ⟨c,cs.size,su⟩ 1).at M).1.size=iS w.1:=Fz _ _
   rwa[N]
  ·refine s.own l ?_ Q;cases l with
   |cell I=>
    obtain⟨a8,aa⟩:=R;exact⟨a8,(Xt w c cs D I).symm.trans aa⟩
   |obj t=>
    obtain⟨ob,C,j⟩:=R;rw[X]at C;split at C
    ·obtain rfl:=aA C;exact absurd j (by simp[Ci])
    ·exact⟨ob,C,j⟩
   |mark ah=>exact R
   |output=>exact R
   |goroutines=>exact R
 refine a1 M n _ E aj ⟨λl h=>by rw[Fz];exact f.low l h,f.blk,f.off,⟨λI ab=>(Xt (W.at M) (sh n c) cs p I).trans (f.kept.cell I ab),λt ad e fz C j=>?_,λt ob C j T=>?_⟩,λi V=>⟨(f.nn i V).1,by rw[Fz];exact(f.nn i V).2⟩⟩
 ·obtain⟨c',T,m⟩:=f.kept.row t ad e fz C j;refine⟨c',?_,m⟩;rw[q,aL λA=>?_]
  ·exact T
  ·subst A;rw[p]at T;cases T;rcases j with rfl|⟨d,P⟩
   ·exact v (dU (by simpa using m))
   ·exact(λhl=>Adl s f.kept D v O (λd P=>(s.own (.cell (iK c d)) ⟨_,(Cg D d).trans (aO P)⟩ (O d)).2) hl) (show M3 (sh n c) (.cell ⟨sh n c,d,su⟩) from iP) P
 ·have m:=f.kept.obj t ob C j T;rw[q,aL λA=>?_]
  ·exact m
  ·subst A;rw[p]at m;exact T _ _ _ (aA m).symm
def NG{B a}(p:Df B a w)(D:w.1[c]?=ni (jf cs 5))(k:¬B c):(Cb B a w).freeze ⟨c,cs.size,su⟩ 1=Cb B a (w.freeze ⟨c,cs.size,su⟩ 1):=by
 have o:(Cb B a w).1[c]?=ni (jf cs 5):=by rwa[By k]
 have e:((Cb B a w).freeze ⟨c,cs.size,su⟩ 1).1=(Cb B a (w.freeze ⟨c,cs.size,su⟩ 1)).heap:=by
  apply bV;intro j;rw[Ir _ c cs o];by_cases P:j=c
  ·subst P;rw[aJ iP,By k,Ir w j cs D,aJ iP]
  ·rw[aL P,Rm,Rm,Ir w c cs D,aL P]
 show World.mk _ _ _ _ _=World.mk _ _ _ _ _;simp only[World.mk.injEq];exact⟨e,iP,iP,iP,iP⟩
def Ad1{R}{Y:PA y R}(D:w.1[c]?=ni (jf cs 5))(f:cs≠#[])(k:∀n:Ren,cs.map (A1 n)=cs)(O:g[i]?=ni o)(v:yg o (yielded g a.tmps)=tu)(Z:A1 (.up w.1.size) x=x)(r:∀n(W:qg),n.Fix prog.globals.size->W.1[sh n c]?=ni (jf cs 5)->(Fv a o n).run qz W=.ok (.value (A1 n x)) (W.freeze ⟨sh n c,cs.size,su⟩ 1)/\(Fv a o n).events qz W #[]=#[])(F:opsV qz tu D5 (Jh Y) j g l Q (a.put o.dst x) (w.freeze ⟨c,cs.size,su⟩ 1)):opsV qz tu D5 (Jh Y) j g (i::l) Q a w:=by
 intro s t z G E L;refine EV.stop λH p N K=>?_;have u:¬Y.2 c:=λh=>by
  obtain⟨b,e,A,_,J⟩:=p.blank c h;have T:w.1[c]?=ni (jf #[] e A):=J;rw[D]at T;cases T;exact f iP
 have I:(World.at w H).1[c]?=ni (jf cs 5):=D;refine Ako (λd h=>?_) (by rwa[By u]) f k O v (by rwa[Bj]) (by rw[E];decide) r λM=>?_
 ·obtain⟨S,e,P⟩:=PA.jx h;cases e;exact u P
 rw[NG p I u];have X:∀d,((w.freeze ⟨c,cs.size,su⟩ 1).at M).1[d]?=if d=c then ni (jf cs 5 (cs.size,cs.size+1)) else w.1[d]?:=λd=>Ir w c cs D d
 have q:Df Y.2 Y.base ((w.freeze ⟨c,cs.size,su⟩ 1).at M):=⟨λd m=>by
  obtain⟨b,e,A,C,J⟩:=p.blank d m;exact⟨b,e,A,C,by rwa[X,aL (fun(e:d=c)=>u (e▸m))]⟩⟩
 have B:Plain ((w.freeze ⟨c,cs.size,su⟩ 1).at M):=λd U m=>by
  rw[X]at m;split at m
  ·obtain rfl:=aA m
   trivial
  ·exact N d U m
 show EN qz Y.H Y.JX _ (Cb Y.2 Y.base ((w.freeze ⟨c,cs.size,su⟩ 1).at M));exact EN.ofP (Ij Y.rows q B) (EV.show Y.6 Y.rows q (EV.at (F s t z G E L) M))
def SZ(w g m c)(cs:iB)(h:w.1[g]?=ni (jf cs 5)):(convert 37 37 (um (ni (iJ g)) m c)).run Z w=.ok (um (ni (iJ g)) m c) (w.freeze ⟨g,cs.size,su⟩ 1)/\(convert 37 37 (um (ni (iJ g)) m c)).events Z w #[]=#[]:=by
 have P:w.shape? g=ni (5,cs.size):=by simp[World.shape?,h]
 refine⟨?_,?_⟩
 ·simp[convert,go_sem,xnt,markStringish,P,Result.andThen]
 ·simp[convert,go_sem,xnt,markStringish,P]
def NF{t}(m b)(D:w.1[c]?=ni (jf cs 5))(f:cs≠#[])(d:Jl cs)(O:g[i]?=ni o)(v:yg o (yielded g a.tmps)=tu)(T:o.op=.convert 37 37 (.tmp t))(P:a.eval (.tmp t)=um (ni (iJ c)) m b)(F:∀B,Ax w B (· = c)->B.1[c]?=ni (jf cs 5 (cs.size,cs.size+1))->opsV Z tu D5 (Jh Y) j g l Q (a.put o.dst (um (ni (iJ c)) m b)) B):opsV Z tu D5 (Jh Y) j g (i::l) Q a w:=by
 refine Ad1 D f (λn=>d.map n) O v (by simp[Ei,Ix (ltOf D)]) (λn W p k=>?_) (F _ ⟨iP,iP,iP,by rw[Fz];exact aB _,λh r z=>by rw[Ir w c cs D h,aL z]⟩ (by rw[Ir w c cs D,aJ iP]));have e:=Hl p a (.tmp t) iP;rw[P]at e;have E:(Bw n a).eval (.tmp t)=um (ni ⟨sh n c,0,su⟩) m b:=by rw[e];simp[Ei]
 obtain⟨M,q⟩:=SZ W (sh n c) m b cs k;unfold Fv execOp;rw[T];simp only[E];refine⟨?_,?_⟩
 ·simp[go_sem,M,Ei]
 ·simp[go_sem,q]
end
structure SA where
 svb:Nat
 D:Nat
 K:Nat
 tb:Nat
 mb:Nat
 wm:Nat
 sm:Nat
def SA.has(A:SA)(fa:iE)(i:Nat):Prop:=i=A.1∨i=A.K∨Fx fa=ni i∨i=A.tb∨i=A.5∨i=A.wm∨i=A.sm
structure Y9(valid Bs gN u)(A:SA)(last down num ns ks left L fa fc):Prop where
 V:GN Bs u A.1 A.D A.tb A.5 A.wm A.sm last down num ns
 tk:Pm num ns
 tn:TrN valid ns
 hw:Ld u A.wm ks
 hnd:ks.Nodup
 hgk:∀k∈ks,Uh k
 hD:u.1[A.D]?=ni (jf #[iI A.K] 60)
 st:St 58 100 u A.K left L fa fc
 l0:-1<=left
 l1:left<=9223372036854775807
 nw:¬Bs A.wm
 nsm:¬Bs A.sm
 nD:¬Bs A.D
 nK:¬Bs A.K
 nf:∀g,Fx fa=ni g->¬Bs g
 gv:gN<=A.1
 gt:gN<=A.tb
 gm:gN<=A.5
 gw:gN<=A.wm
 gs:gN<=A.sm
 gD:gN<=A.D
 gK:gN<=A.K
 gf:∀g,Fx fa=ni g->gN<=g
 wmb:A.wm≠A.5
 wsm:A.wm≠A.sm
 mbs:A.5≠A.sm
section
variable {J:hZ} {A:SA} {last:Int} {b:Bool} {num:Int} {a:iC} {left:Int}
def Y9.kx(S:Y9 z c y u A last b num r a left L fa m)(K:Ax u O X)(t:∀i,A.has fa i->¬X i)(W:¬X A.D):Y9 z c y O A last b num r a left L fa m:=
 ⟨S.V.kx K (t _ (p8 iP)) (t _ (n9 (n9 (n9 (p8 iP))))) (t _ (n9 (n9 (n9 (n9 (p8 iP)))))),S.2,S.3,S.hw.keep (K.block _ (Bl.lt S.hw) (t _ (n9 (n9 (n9 (n9 (n9 (p8 iP)))))))),S.5,S.6,K.get S.7 W,S.st.kx K (t _ (n9 (p8 iP))) λg G=>t g (n9 (n9 (p8 G))),S.9,S.l1,S.nw,S.12,S.nD,S.nK,S.nf,S.gv,S.gt,S.gm,S.gw,S.gs,S.gD,S.gK,S.gf,S.wmb,S.wsm,S.mbs⟩
def Y9.kf(S:Y9 z c y u A last b num r a left L fa m)(K:Ax u O iO):=S.kx K (λ_ _=>id) id
def Y9.ge(S:Y9 z c y u A last b num r a left L fa m)(h:A.has fa i):y<=i:=by
 rcases h with rfl|rfl|h|rfl|rfl|rfl|rfl
 ·exact S.gv
 ·exact S.gK
 ·exact S.gf i h
 ·exact S.gt
 ·exact S.gm
 ·exact S.gw
 ·exact S.gs
def Kl{a size e}{X:iC}(h:w.ownsRow a e size (um v n s) n X)(G:Fx v=ni g):=Ii h ((Xx v _ _).trans G)
def Y9.obj(S:Y9 z c y u A last b num r a left L fa m){d}(f:Bl Z 3 u A.sm d){i}(h:A.has fa i):∃o,u.1[i]?=ni o/\(∀e,o≠jf e 84)/\∀e,o≠jf e 5:=by
 rcases h with rfl|rfl|h|rfl|rfl|rfl|rfl
 ·exact⟨_,S.V.1,Ad,Ad⟩
 ·exact⟨_,S.st.blk,Ad,Ad⟩
 ·have ⟨cs,M⟩:=Kl S.st.row h
  grind
 ·exact⟨_,S.V.ht.blk,Ad,Ad⟩
 ·have ⟨X,x,D⟩:=S.V.ht.map.obj
  grind
 ·have ⟨X,x,D⟩:=Bl.obj S.hw
  grind
 ·have ⟨X,x,D⟩:=f.obj
  grind
def Y9.offS(S:Y9 z c y u A last b num r a left L fa m)(e:Bl Z 3 u A.sm d)(H:Ue cu J c y u se)(h:A.has fa i):¬Ho se i:=by
 have ⟨o,C,f,T⟩:=S.obj e h;exact H.off C f T
def Y9.offD(S:Y9 z c y u A last b num r a left L fa m){se}(H:Ue cu J c y u se):=H.off S.7 Ad Ad
def Y9.lt(S:Y9 z c y u A last b num r a left L fa m){d}(e:Bl Z 3 u A.sm d){i}(h:A.has fa i):i<iS u.1:=by
 have ⟨o,C,_⟩:=S.obj e h;exact ltOf C
def Y9.notD(S:Y9 z c y u A last b num r a left L fa m){d}(e:Bl Z 3 u A.sm d):¬A.has fa A.D:=by
 rintro(h|h|h|h|h|h|h)
 ·exact Mj S.7 S.V.1 Ad h
 ·exact Mj S.7 S.st.blk Ad h
 ·have ⟨cs,M⟩:=Kl S.st.row h;rw[S.7]at M;cases M
 ·exact Mj S.7 S.V.ht.blk Ad h
 ·exact D7 S.V.ht.map S.7 h.symm
 ·exact D7 S.hw S.7 h.symm
 ·exact D7 e S.7 h.symm
def TS{kind}(E:kind=1∨kind=2∨kind=3):(TT kind).length<=3:=by
 rcases E with rfl|rfl|rfl<;>simp[TT]
end
structure ST where
 last:Int
 down:Bool
 num:Int
 ns:List (hU×Nd)
 ks:List w8
 left:Int
 L:List Fl
structure AS where
 k:Int
 ver:Int
 en:Bool
 lo:hQ
def SI.abs(p:SI):AS:=⟨p.k,p.ver,p.en,p.lo⟩
def Hi(l:List AS)(i:Nat)(b:hQ):List AS:=l.modify i λa=>{ a with lo:=a.lo++b }
def Px(l:List AS)(ls:gY):List AS:=List.zipWith (λa b=>{ a with lo:=a.lo++b }) l ls
structure Full(cu:Nat->w8×w8)(valid J Bs gN u A)(σ:ST)(fa fc se):Prop where
 srv:Y9 valid Bs gN u A σ.last σ.down σ.num σ.ns σ.ks σ.left σ.L fa fc
 ses:Ue cu J Bs gN u se
 map:Bl qz 3 u A.sm (E0 (se.map λp=>(p.k,p.b)))
structure E7(u u')(A:SA)(fa fa' se Fq):Prop where
 K:Ax u u' (λi=>A.has fa i∨Ho se i)
 own:∀g,Fx fa'=ni g->Fx fa=ni g∨iS u.1<=g
 sin:∀i,Ho Fq i->Ho se i∨iS u.1<=i
 kb:(Fq.map λp=>(p.k,p.b))=se.map λp=>(p.k,p.b)
section
variable {J:hZ} {U:T} {A:SA} {d:ST} {a c:iE} {b e:List SI}
def Full.kx(h:Full cu z J Bs y u A d fa m se)(K:Ax u O X)(t:∀i,A.has fa i∨Ho se i->¬X i)(W:¬X A.D):Full cu z J Bs y O A d fa m se:=
 ⟨h.1.kx K (λi V=>t i (p8 V)) W,h.ses.kx K λi V=>t i (n9 V),h.map.of_block (K.block _ h.map.lt (t _ (p8 (n9 (n9 (n9 (n9 (n9 (n9 iP)))))))))⟩
def Full.kf(h:Full cu z J Bs y u A d fa m se)(K:Ax u O iO):=h.kx K (λ_ _=>id) id
def Full.at(h:Full cu z J Bs y u A d fa m se)(a):=h.kf ((Ax.refl u _).at a)
def Full.lt(h:Full cu z J Bs y u A d fa m se){i}(V:A.has fa i∨Ho se i):=V.elim (h.1.lt h.map) h.ses.lt
def Full.ge(h:Full cu z J Bs y u A d fa m se)(V:A.has fa i∨Ho se i):=V.elim h.1.ge h.ses.ge
def E7.kf(K:Ax u O iO):E7 u O A fa fa se se:=⟨K.mono λ_ h=>h.elim,λ_ h=>p8 h,λ_ h=>p8 h,iP⟩
def E7.trans(d:E7 u O A fa a se b)(k:E7 O U A a c b e):E7 u U A fa c se e:=by
 refine⟨d.K.trans' k.K λi V Y=>?_,λg G=>?_,λi V=>?_,k.kb.trans d.kb⟩
 ·rcases V with V|V
  ·rcases V with V|V|V|V
   ·exact p8 (p8 V)
   ·exact p8 (n9 (p8 V))
   ·rcases d.own i V with h|h
    ·exact p8 (n9 (n9 (p8 h)))
    ·omega
   ·exact p8 (n9 (n9 (n9 V)))
  ·rcases d.sin i V with h|h
   ·exact n9 h
   ·omega
 ·rcases k.own g G with h|h
  ·exact d.own g h
  ·exact n9 (aF d.K.size h)
 ·rcases k.sin i V with h|h
  ·exact d.sin i h
  ·exact n9 (aF d.K.size h)
def E7.at(h:E7 u O A fa a se b)(d):E7 u (O.at d) A fa a se b:=⟨h.K.at d,h.own,h.sin,h.kb⟩
def Agh{p b}(V:se[i]?=ni p):(se.set i { p with lo:=p.lo++b,ov:=S }).map SI.abs=Hi (se.map SI.abs) i b:=by
 apply bK;intro G;unfold Hi;exact Tbq
def Abb{N B}(h:Oj N se b B):b.map SI.abs=Px (se.map SI.abs) B:=by
 apply bK;intro j;unfold Px;rw[aT,List.getElem?_zipWith,aT];by_cases F:j<iR se
 ·obtain⟨l,K⟩:∃l,B[j]?=ni l:=⟨_,aG (by have:=h.2;omega)⟩;have ⟨S,C,_⟩:=h.one j se[j] l (aG F) K;rw[C,aG F,K];simp[SI.abs]
 ·have:=h.len
  grind
def Full.told(e:Full cu z J Bs y u A d fa m se)(r:y<=iS u.1){p}(V:se[i]?=ni p){c}(T:Told cu J Bs u O p.b p.k p.ver p.en p.6 p.lo c):∃b,Full cu z J Bs y O A d fa m b/\E7 u O A fa fa se b/\b.map SI.abs=Hi (se.map SI.abs) i c:=by
 obtain⟨S,C,a⟩:=e.ses.told V r T;have K:Ax u O (Ho se):=T.K.mono (λj l=>⟨i,p,V,l⟩);have B:((se.set i { p with lo:=p.lo++c,ov:=S }).map λp=>(p.k,p.b))=se.map λp=>(p.k,p.b):=by
  apply bK
  grind
 refine⟨_,⟨e.1.kx K (λj l=>e.1.offS e.map e.ses l) (e.1.offD e.ses),C,?_⟩,⟨K.mono λ_ e=>n9 e,λ_ e=>p8 e,λj l=>?_,B⟩,Agh V⟩
 ·exact D60
 ·obtain⟨G,q,E,f⟩:=l;by_cases H:i=G
  ·subst H;rw[bI (aD.1 V).1]at E;obtain rfl:=aA E;rcases f with f|f
   ·exact p8 ⟨i,p,V,p8 f⟩
   ·rcases a j f with g|g
    ·exact p8 ⟨i,p,V,n9 g⟩
    ·exact n9 g
  ·rw[bD H]at E;exact p8 ⟨G,q,E,f⟩
end
def KS(kind:Nat)(m z:Int)(p:hU)(ns:List (hU×Nd)):hQ:=
 if kind=1 then E m 4++E z 8++E 0 4++E p.size 4++p.data.toList
 else if kind=2 then E m 4++E z 8++E 0 4
 else E m 4++E z 8++E 0 4++E ((E9 ns p).getD Nd.zero).made 8++E ((E9 ns p).getD Nd.zero).changed 8++E ((E9 ns p).getD Nd.zero).version 4++E ((kids p ns).length:Nat) 4
def chR(kind:Nat)(m:Int)(p d n:hU)(eno:Int)(i:Nat)(σ:ST)(l:List AS)(σ':ST)(l':List AS):Prop:=
 (eno≠0/\σ'=σ/\l'=Hi l i (We m σ.num eno)) ∨
 (eno=0/\∃b left' L',Aem σ.left σ.L (AU kind (σ.num+1) p d n) b left' L' /\
  (
   (b=o9/\σ' = { σ with down:=tu,left:=left',L:=L' }/\l'=l) ∨
   (b=tu/\σ' = { σ with num:=σ.num+1,ns:=Rh kind σ.ns p d n (σ.num+1),ks:=(Dj (σ.num+1) p (TT kind) (l.map AS.k) σ.ks).2,left:=left',L:=L' } /\
    l'=Hi (Px l (Dj (σ.num+1) p (TT kind) (l.map AS.k) σ.ks).1) i (CP (KS kind m (σ.num+1) p (Rh kind σ.ns p d n (σ.num+1)))))))
structure Af9(valid:gZ)(kind)(p d n:hU)(ns):Prop where
 okd:Okd kind p ns
 pa:Hr p=tu
 ps:p.size<=200
 pv:valid p=tu
 sl:Eb p=tu
 ds:d.size<=40
 nz:n.size<=200
 nv:valid n=tu
 nm:(Hw p).size<=24/\valid (Hw p)=tu
 par:(Ec p).size<=200/\valid (Ec p)=tu
section
variable {J:hZ}
def Ahp{c b}(h:w.1[svb]?=ni (jf (B9 D g M sm c b) 95))(l:∀k,¬J (.cell (iK svb k)))(o)(k:Nat)(O:o.op=.load 89 (.tmp k))(a:Act)(E:a.eval (.tmp k)=iI svb):Go.Pair.Yields Z (execOp a.eval o) w (.agg #[iI D]) w/\∀f∈(execOp a.eval o).events Z w #[],Fb J f:=by
 have c0:=Vx 0 h;unfold execOp;rw[O];simp only[E];refine⟨p8 ?_,λf N=>?_⟩
 ·go_simp
 ·simp[go_sem,c0]at N;subst N;exact Cl (l _)
def putC5(w:T)(b:Nat)(kind:Int)(p d n:hU)(v:Int):T:=((((w.setCell (iJ b) (iL kind)).setCell (iK b 1) (x7 p)).setCell (iK b 2) (x7 d)).setCell (iK b 3) (x7 n)).setCell (iK b 4) (iL v)
def IW(h:w.1[b]?=ni (jf (Dx 0 iN iN iN 0) 152))(kind p d n v):B8 w (putC5 w b kind p d n v) b (Dx kind p d n v) 152:=
 (((((B8.refl h).set 0 (iL kind)).set 1 (x7 p)).set 2 (x7 d)).set 3 (x7 n)).set 4 _
def Afi{kind p d n v}(h:w.1[b]?=ni (jf (Dx 0 iN iN iN 0) 152))(l:∀k,¬J (.cell (iK b k)))(o)(O:o.op=.store 152 (.tmp 6) (.tmp 18))(a:Act)(f:a.eval (.tmp 6)=iI b)(B:a.eval (.tmp 18)=Mx kind p d n v):(∀M,Go.Pair.Yields Z (execOp a.eval o) (w.at M) uw ((putC5 w b kind p d n v).at M))/\∀M,∀e∈(execOp a.eval o).events Z (w.at M) #[],Fb J e:=by
 refine⟨λM=>n9 ⟨?_,iP⟩,λM=>?_⟩
 all_goals
  have ⟨y,m,q,S,r⟩:=Wd (W:=w.at M) h iP;have ⟨Q,D,K,s,t,_⟩:=Iv (W:=w.at M) h;unfold execOp;rw[O];simp only[f,B]
 ·go_simp;unfold putC5;simp only[at_set]
 ·intro e N;simp[go_sem,y,m,q,S,r,Q,D,K,s,t,nk _ _ _ _ (Value.string _) uwj iP,storedEv]at N;rcases N with rfl|rfl|rfl|rfl|rfl<;>exact Cl (l _)
def VW.putC5(W:VW J Bs w)(b kind p d n v):VW J Bs (putC5 w b kind p d n v):=((((W.set _ _ _).set _ _ _).set _ _ _).set _ _ _).set _ _ _
def GG(rb:Nat)(rc:iB)(cb:Nat)(cc:iB)(w:T):Prop:=w.1[rb]?=ni (jf rc 131)/\w.1[cb]?=ni (jf cc 152)
def GG.at{rb rc cb cc}(w d)(h:GG rb rc cb cc w):GG rb rc cb cc (w.at d):=h
def GG.kx{O X}(h:GG P j cb O w)(E:Ax w B X)(C:¬X P)(J:¬X cb):GG P j cb O B:=⟨E.get h.1 C,E.get h.2 J⟩
def St.sim{a}(h:St 58 100 w K a L v s)(C:B.1[K]?=w.1[K]?)(J:∀g,Fx v=ni g->B.1[g]?=w.1[g]?):St 58 100 B K a L v s:=
 ⟨C.trans h.blk,Wu h.row λg cs G M=>J g ((Xx v _ _).symm.trans G)⟩
def RO{num}(h:Cj w b t num r){p}(Z:(p,x)∈r):E9 r p=ni x:=by
 cases z:E9 r p with
 |none=>exact absurd iP (Hb z _ Z)
 |some y=>
  have C:=h.map.one (aZ.2 ⟨_,(Fe z),iP⟩) (aZ.2 ⟨_,Z,iP⟩);have ⟨m,a,S,n,Y,d⟩:=y
  simp_all
def ch7:Code:=match f120.body with|some (.seq _ (.seq _ (.seq _ (.seq _ (.seq c _)))))=>c|_=>.skip
def ch8:Code:=match f120.body with|some (.seq _ (.seq _ (.seq _ (.seq _ (.seq _ (.seq c _))))))=>c|_=>.skip
def ch9:Code:=match f120.body with|some (.seq _ (.seq _ (.seq _ (.seq _ (.seq _ (.seq _ c))))))=>c|_=>.skip
def LG(svb sb:Nat)(r:I)(rb cb:Nat)(s:iD):Act:=⟨#[iI svb,iI sb,r,s 3,s 4,iI rb,iI cb,s 7,s 8,s 9,s 10,s 11,s 12,s 13,s 14,s 15,s 16,s 17,s 18,s 19,s 20,s 21,s 22,s 23,s 24,s 25,s 26,s 27,s 28,s 29,s 30,s 31,s 32,s 33,s 34,s 35,s 36,s 37,s 38,s 39,s 40,s 41,s 42,s 43,s 44,s 45,s 46,s 47,s 48,s 49,s 50,s 51,s 52,s 53,s 54,s 55,s 56,s 57,s 58,s 59,s 60,s 61,s 62,s 63],[]⟩
def Apg{z r a}(h:a=LG z D r P cb (λj=>a.tmps.getD j uw)):∃s,a=LG z D r P cb s:=⟨_,h⟩
def Amy{svb sb r rb cb a c}(h:a=LG svb sb r rb cb (λj=>a.tmps.getD j uw))(H:∀s,Hj Z tu J N 120 c Q (LG svb sb r rb cb s) w):Hj Z tu J N 120 c Q a w:=by
 rw[h];exact H _
def Ao8:Obj->Bool
 |jf _ t _=>t==95||t==58||t==100||t==108||t==84||t==5||t==60
 |.map _ _=>tu
 |_=>o9
def Full.kind{A a}(F:Full h z J Bs y u A a v s se){I}(b:A.has v I∨Ho se I):∃o,u.1[I]?=ni o/\Ao8 o=tu:=by
 have S:=F.1;rcases b with b|⟨k,q,E,Z⟩
 ·rcases b with rfl|rfl|b|rfl|rfl|rfl|rfl
  ·exact⟨_,S.V.1,iP⟩
  ·exact⟨_,S.st.blk,iP⟩
  ·obtain⟨cs,M⟩:=Kl S.st.row b;exact⟨_,M,iP⟩
  ·exact⟨_,S.V.ht.blk,iP⟩
  ·obtain⟨X,x,D⟩:=S.V.ht.map.obj;exact⟨_,D,iP⟩
  ·obtain⟨X,x,D⟩:=Bl.obj S.hw;exact⟨_,D,iP⟩
  ·obtain⟨X,x,D⟩:=F.map.obj;exact⟨_,D,iP⟩
 ·obtain⟨e,_⟩:=F.ses.one k q E;rcases Z with rfl|Z
  ·obtain⟨c,M,_⟩:=e.row;exact⟨_,M,iP⟩
  ·obtain⟨_,⟨T,_⟩|⟨G,ar,d,T,_,g,_⟩⟩:=e.own
   ·rw[T]at Z;cases Z
   ·rw[T]at Z;obtain rfl:G=I:=by simpa[Value.ownBlock] using Z
    exact⟨_,g,iP⟩
def Full.off{A a}(F:Full h z J Bs y u A a v s se){j o}(l:u.1[j]?=ni o)(O:Ao8 o=o9):¬(A.has v j∨Ho se j):=λb=>by
 have ⟨I,C,c⟩:=F.kind b
 grind
def Ajc{r}(W:VW J Bs u)(Y:J (.obj r))(O:u.1[r]?=ni o)(M:o.isChan=o9):False:=by
 have ⟨I,C,a⟩:=W.3 r Y
 grind
def Aby(C:Cx F y J Bs u){A a X}(b:Full h z J Bs y u A a v X se)(D r kind)(E:kind=1∨kind=2∨kind=3)(p d n K)(Q:Af9 z kind p d n a.ns)(I:a.num+1<9223372036854775807)(rb cb)(m:u.1[cb]?=ni (jf (Dx kind p d n K) 152))(V:¬Bs cb)(s):Hj qz tu J N 120 ch7 (λo a' c=>o=.normal/\(∃W,a'=LG A.1 D r rb cb W)/\VW J Bs c/\Full h z J Bs y c A { a with num:=a.num+1,ns:=Rh kind a.ns p d n (a.num+1) } v X se/\E7 u c A v v se se) (LG A.1 D r rb cb s) u:=by
 have S:=b.1;have t:∀j,(j=A.tb∨j=A.5)->A.has v j:=λj Z=>Z.elim (λZ=>n9 (n9 (n9 (p8 Z)))) λZ=>n9 (n9 (n9 (n9 (p8 Z))));have ae:∀r,J (.obj r)->¬(r=A.tb∨r=A.5):=λr Y Z=>by
  rcases Z with Z|Z
  ·subst Z;exact Ajc C.W Y S.V.ht.blk iP
  ·subst Z;obtain⟨es,cl,hb⟩:=S.V.ht.map.obj;exact Ajc C.W Y hb iP
 have B:p.size<=1000:=by have:=Q.ps;omega
 unfold ch7 LG;simp only[f120];have w:=Jg.at (rb:=cb) (rc:=Dx kind p d n K) (rt:=152) (svb:=A.1) (vc:=B9 A.D A.tb A.wm A.sm a.last a.down);have T:∀e(q:qg)M,(cxv=cxv/\(∃W,e=LG A.1 D r rb cb W)/\VW J Bs q/\Full h z J Bs y q A { a with num:=a.num+1,ns:=Rh kind a.ns p d n (a.num+1) } v X se/\E7 u q A v v se se)->(cxv=cxv/\(∃W,e=LG A.1 D r rb cb W)/\VW J Bs (q.at M)/\Full h z J Bs y (q.at M) A { a with num:=a.num+1,ns:=Rh kind a.ns p d n (a.num+1) } v X se/\E7 u (q.at M) A v v se se):=λe q M⟨h1,h2,h3,h4,h5⟩=>⟨h1,h2,h3.at M,h4.at M,h5.at M⟩;refine Em (I:=Jg cb (Dx kind p d n K) 152 A.1 (B9 A.D A.tb A.wm A.sm a.last a.down)) Ac λk=>?_;have L:Jg cb (Dx kind p d n K) 152 A.1 (B9 A.D A.tb A.wm A.sm a.last a.down) (u.at k):=⟨m,S.V.1⟩;refine Ogs ?_;apply A9.tl 3 w T L (λq (H:Jg _ _ _ _ _ q)=>(cellOf (j:=1) H.2 iP:q.cell? (iK A.1 1)=ni (iI A.tb))) ((λa1 Z=>S.V.nv (C.W.2 _ Z)) 1);walk_nrm;refine A9.take (i:=4) (x:=(Mx kind p d n K)) w T iP Ab Ab Ab (Gq (S:=env Lv) Ac (B7 (fn:=0) Ab) (A4 _ _) ?_) L ?_
 ·exact λq H=>O1 H.1 (λa1 Z=>V (C.W.2 _ Z)) _ _ iP _ Ac
 walk_nrm;apply Ca (i:=5) (Gl (f:=93) (args:=#[iI A.tb,Mx kind p d n K]) Ae (C.W.at k) (X:=λi=>i=A.tb∨i=A.5) (R:=λ_ c=>Cj c A.tb A.5 (a.num+1) (Rh kind a.ns p d n (a.num+1))) ae λL' hs=>(An1 ((S.V.ht.at k).sim hs S.V.4 S.V.nm) (D7 S.V.ht.map S.V.ht.blk) S.2 I kind E p d n K B Q.1).mono λo c Z=>⟨⟨_,Z.1,Z.2.1⟩,Z.2.2⟩) Ab iP Ac iP Af;rintro x l⟨R,W6,L6,G,a7,P⟩;have U:Ax u l (λi=>i=A.tb∨i=A.5):=R.ofAt;have O:¬(A.1=A.tb∨A.1=A.5):=by rintro(Z|Z);exact Mj S.V.1 S.V.ht.blk Ad Z;exact D7 S.V.ht.map S.V.1 Z.symm
 have zf:∀g,Fx v=ni g->¬(g=A.tb∨g=A.5):=λg hg=>by
  obtain⟨cs,f⟩:=Kl S.st.row hg;rintro(Z|Z)
  ·exact Mj f S.V.ht.blk Ad Z
  ·exact D7 S.V.ht.map f Z.symm
 have a6:=L.kx R (λZ=>b.off m iP (p8 (t _ Z))) O;refine⟨a6,?_⟩;walk_nrm;have z1:=S.V.6;have a8:=S.2.num0;have V6:GN Bs l A.1 A.D A.tb A.5 A.wm A.sm a.last a.down (a.num+1) (Rh kind a.ns p d n (a.num+1)):=⟨U.get S.V.1 O,S.V.nv,(⟨(G _ S.V.4).symm.trans P.blk,P.map.of_block (G _ S.V.nm).symm⟩),S.V.4,S.V.nm,Aa,Aa⟩;have S6:Y9 z Bs y l A a.last a.down (a.num+1) (Rh kind a.ns p d n (a.num+1)) a.ks a.left a.L v X:=⟨V6,S.2.done I E B Q.sl Q.1,S.3.done E Q.6 Q.nm,S.hw.keep (U.block _ (Bl.lt S.hw) (by rintro(Z|Z);exact D7 S.hw S.V.ht.blk Z;exact S.wmb Z)),S.5,S.6,U.get S.7 (by rintro(Z|Z);exact Mj S.7 S.V.ht.blk Ad Z;exact D7 S.V.ht.map S.7 Z.symm),S.st.kx U (by rintro(Z|Z);exact Mj S.st.blk S.V.ht.blk Ad Z;exact D7 S.V.ht.map S.st.blk Z.symm) zf,S.9,S.l1,S.nw,S.12,S.nD,S.nK,S.nf,S.gv,S.gt,S.gm,S.gw,S.gs,S.gD,S.gK,S.gf,S.wmb,S.wsm,S.mbs⟩;exact A9.all Ab ⟨iP,Apg iP,W6,⟨S6,b.ses.kx U λj hj Z=>S.offS b.map b.ses (t j Z) hj,b.map.of_block (U.block _ b.map.lt (by rintro(Z|Z);exact D7 b.map S.V.ht.blk Z;exact S.mbs Z.symm))⟩,⟨U.mono λj Z=>p8 (t j Z),λ_ Z=>p8 Z,λ_ Z=>p8 Z,iP⟩⟩ _
def Q8{num q T}(f:∀b,(Ms q b).size<=200)(V:iR T<=3):∀{l} {ks:iC} {i:Nat} {b},(Dj num q T l ks).1[i]?=ni b->iR b<=700
 |[],ks,i,b,h=>by simp[Dj]at h
 |k::l,ks,i,b,h=>by
  rw[Dj]at h;cases i with
  |zero=>
   simp at h;subst h;have C:=UN (num:=num) (E:=(Fg k q T ks).1) λe N=>by obtain⟨x,_,rfl⟩:=Sa e N;exact f _
   have J:=R8 (s:=k) (q:=q) (T:=T) (ks:=ks);omega
  |succ i=>
   exact Q8 f V h
def QF(U:Im z F)(C:Cx F y J Bs u)(t:TlU y J u){A a}(c:Full h z J Bs y u A a v K se)(q:se≠[])(I:iR se<=8)(m:(se.map SI.k).Pairwise (·<=·))(o:∀p∈se,keyOf qz 3 (iL p.k)=ni (pkj yi p.k)/\(pkj yi p.k).wf=tu)(L:∀p∈se,iR p.lo<=9000000000)(g r)(kind:Nat)(E:kind=1∨kind=2∨kind=3)(p d n e)(B:p.size<=200)(Q:∀j,(Ms p j).size<=200/\z (Ms p j)=tu)(W:Eb p=tu)(P cb)(T:u.1[cb]?=ni (jf (Dx kind p d n e) 152))(Z:¬Bs cb)(s):Hj qz tu J N 120 ch8 (λY a' f=>Y=.normal/\(∃s',a'=LG A.1 g r P cb s')/\VW J Bs f/\∃w,Full h z J Bs y f A { a with ks:=(Dj a.num p (TT kind) (se.map SI.k) a.ks).2 } v K w/\E7 u f A v v se w/\Oj u.1.size se w (Dj a.num p (TT kind) (se.map SI.k) a.ks).1) (LG A.1 g r P cb s) u:=by
 have S:=c.1;have H:∀k,¬J (.cell (iK cb k)):=λk b=>Z (C.W.2 _ b);unfold ch8 LG;simp only[f120];refine Mwc ?_;apply Cy (S:=env Lv) (fn:=120) iP Ac (B7 Ab) (A4 _ _) (x:=Mx kind p d n e) (v':=u) (λM=>(O1 (J:=J) (w:=u.at M) T H _ _ iP _ Ac).1) (λM=>(O1 (J:=J) (w:=u.at M) T H _ _ iP _ Ac).2);walk_nrm;apply A3 (DJ U C S.V se c.ses q I m o L c.map S.12 a.ks S.hw S.5 S.nw S.gw S.wmb S.wsm kind Aa (TT kind) (TS E) (t kind E) ((by rcases E with rfl|rfl|rfl<;>(intro x Z;simp[TT]at Z;rcases Z with rfl|rfl|rfl<;>decide)<;>(omega))) p d n e B Q W) iP Ac iP Af;rintro x R⟨rfl,a1,i,a6,D,a7,X⟩;walk_nrm;have a8:Bl qz 3 R A.sm (E0 (D.map λp=>(p.k,p.b))):=by
  rw[X.kb];exact c.map.of_block (i.block _ c.map.lt (λb=>b.elim (λb=>S.wsm b.symm) (S.offS c.map c.ses (n9 (n9 (n9 (n9 (n9 (n9 iP)))))))))
 have O:=Ra (num:=a.num) (q:=p) (T:=TT kind) (l:=se.map SI.k) (ks:=a.ks);have V:Y9 z Bs y R A a.last a.down a.num a.ns (Dj a.num p (TT kind) (se.map SI.k) a.ks).2 a.left a.L v K:=⟨(S.V.kx i (λb=>b.elim (λb=>D7 S.hw S.V.1 b.symm) (S.offS c.map c.ses (p8 iP))) (λb=>b.elim (λb=>D7 S.hw S.V.ht.blk b.symm) (S.offS c.map c.ses (n9 (n9 (n9 (p8 iP)))))) (λb=>b.elim (λb=>S.wmb b.symm) (S.offS c.map c.ses (n9 (n9 (n9 (n9 (p8 iP)))))))),S.2,S.3,a6,S.5.sublist O,λk E=>S.6 k (O.subset E),(i.get S.7 (λb=>b.elim (λb=>D7 S.hw S.7 b.symm) (S.offD c.ses))),(S.st.kx i (λb=>b.elim (λb=>D7 S.hw S.st.blk b.symm) (S.offS c.map c.ses (n9 (p8 iP)))) (λad G b=>b.elim (λb=>by obtain⟨cs,aa⟩:=Kl S.st.row G;exact D7 S.hw aa b.symm) (S.offS c.map c.ses (n9 (n9 (p8 G)))))),S.9,S.l1,S.nw,S.12,S.nD,S.nK,S.nf,S.gv,S.gt,S.gm,S.gw,S.gs,S.gD,S.gK,S.gf,S.wmb,S.wsm,S.mbs⟩;exact Au ⟨iP,Apg iP,a1,D,⟨V,a7,a8⟩,⟨i.mono λab b=>b.imp (λb=>n9 (n9 (n9 (n9 (n9 (p8 b)))))) id,λ_ b=>p8 b,λab l=>X.sin l,X.kb⟩,X⟩
def WW(U:Im z F)(C:Cx F y J Bs u){A c f}(P:Full h z J Bs y u A c v f se)(i r)(hi:se[i]?=ni r)(ad:r.ver=1)(R:iR r.lo<=10000000000)(kind:Nat)(hk:kind=1∨kind=2∨kind=3)(m)(ab:-2147483648<=m)(ae:m<=2147483647)(p d n K k)(ah:Hr p=tu)(ai:p.size<=200)(ak:z p=tu)(I:kind=3->∃x,(p,x)∈c.ns)(rb cb)(hr:u.1[rb]?=ni (jf (A7 kind m p d n K k) 131))(nr:¬Bs rb)(hc:u.1[cb]?=ni (jf (Dx kind p d n K) 152))(nc:¬Bs cb)(s):Hj qz tu J N 120 ch9 (λe a' Y=>(e=.normal∨e=.ret)/\a'.defers = []/\VW J Bs Y/\∃j,Full h z J Bs y Y A c v f j/\E7 u Y A v v se j/\j.map SI.abs=Hi (se.map SI.abs) i (CP (KS kind m c.num p c.ns))) (LG A.1 r.b (J7 kind m p d n K k) rb cb s) u:=by
 have S:=P.1;obtain⟨S0,_,_⟩:=P.ses.one i r hi;have t:Gm h J Bs u r.b r.k 1 r.en r.6 r.lo:=by rwa[←ad]
 have z1:=S.V.6;have z2:=S.V.z2;have Z:=Gt t.own S.V.1 Ad;have a6:rb≠r.b:=λg=>nr (g▸t.inb);have a7:cb≠r.b:=λg=>nc (g▸t.inb);unfold ch9 LG;simp only[f120];have w:=GG.at (rb:=rb) (rc:=A7 kind m p d n K k) (cb:=cb) (cc:=Dx kind p d n K);refine Em (I:=GG rb (A7 kind m p d n K k) cb (Dx kind p d n K)) Ac λG=>?_;have L:GG rb (A7 kind m p d n K k) cb (Dx kind p d n K) (u.at G):=⟨hr,hc⟩;have T:∀(a:Act)q(o:Nat),((cxv=cxv∨cxv=Exit.ret)/\a.defers = []/\VW J Bs q/\∃j,Full h z J Bs y q A c v f j/\E7 u q A v v se j/\j.map SI.abs=Hi (se.map SI.abs) i (CP (KS kind m c.num p c.ns)))->((cxv=cxv∨cxv=Exit.ret)/\a.defers = []/\VW J Bs (q.at o)/\∃j,Full h z J Bs y (q.at o) A c v f j/\E7 u (q.at o) A v v se j/\j.map SI.abs=Hi (se.map SI.abs) i (CP (KS kind m c.num p c.ns))):=λa q o⟨h1,h2,h3,j,h4,h5,h6⟩=>⟨h1,h2,h3.at o,j,h4.at o,h5.at o,h6⟩;apply A9.tp 0 w T L;walk_nrm;apply A9.tp 1 w T L;walk_nrm;apply A9.tp 3 w T L;walk_nrm;refine A9.take (i:=2) (x:=(J7 kind m p d n K k)) w T iP Ab Ab Ab (Gq (S:=env Lv) Ac (B7 (fn:=0) Ab) (A4 _ _) ?_) L ?_
 ·exact λq H=>Ju H.1 (λal g=>nr (C.W.2 _ g)) _ _ iP _ Ac
 walk_nrm;refine A9.take (i:=4) (x:=(Mx kind p d n K)) w T iP Ab Ab Ab (Gq (S:=env Lv) Ac (B7 (fn:=0) Ab) (A4 _ _) ?_) L ?_
 ·exact λq H=>O1 H.2 (λal g=>nc (C.W.2 _ g)) _ _ iP _ Ac
 walk_nrm;have a8:∀(B Q:qg)(b:hQ),Ax u B iO->Told h J Bs B Q r.b r.k 1 r.en r.6 r.lo b->∃j,Full h z J Bs y Q A c v f j/\E7 u Q A v v se j/\j.map SI.abs=Hi (se.map SI.abs) i b:=λB Q b X E=>by
  obtain⟨j,F',G',ha⟩:=(P.kf X).told (aF C.sz X.size) hi (ad▸E);exact⟨j,F',(E7.kf X).trans G',ha⟩
 rcases hk with rfl|rfl|rfl
 ·apply Ca (i:=5) (YW U (C.at G) (S.V.at G) S.2 p d n K) Ab iP Ac iP Ap;rintro lv B⟨l,M,aa⟩;have D:=L.kx l id id;refine⟨D,?_⟩;walk_nrm;have X:Ax u B iO:=((Ax.refl u _).at G).trans l;have C8:=C.kx X M λ_ g=>g.elim;have a1:=puts_path z (m:=m) (z:=c.num) (e:=0) (p:=p) ab ae z1 z2 Ae Ae ai ak;have aj:iR p.data.toList=p.size:=iP;apply Ca (i:=6) (On U C8 (t.kx X id λ_ _=>id) R (S.V.kx X id id id) Z 1 Ae m p d n K k _ (λaf O=>O.14) [txt p] lv Ad Ad aa _ Ac _ a1 D2 HA) Ab iP Ac iP Ap;exact F5y
 ·apply Ca (i:=5) (YX U (C.at G) (S.V.at G) S.2 p d n K) Ab iP Ac iP Ap;rintro lv B⟨l,M,rfl⟩;have D:=L.kx l id id;refine⟨D,?_⟩;walk_nrm;have X:Ax u B iO:=((Ax.refl u _).at G).trans l;have C8:=C.kx X M λ_ g=>g.elim;have a1:=puts_error z (m:=m) (z:=c.num) (e:=0) ab ae z1 z2 Ae Ae;apply Ca (i:=6) (On U C8 (t.kx X id λ_ _=>id) R (S.V.kx X id id id) Z 2 Ae m p d n K k _ (λaf O=>O.15) [] (um su 0 0) (λ_=>rfl) Ad (.nil _ _) _ parse_error _ a1 Ao Ao) Ab iP Ac iP Ap;exact F5y
 ·obtain⟨V,I⟩:=I iP;apply Ca (i:=5) (YY U (C.at G) (S.V.at G) S.2 p d n K ah Aa V I) Ab iP Ac iP Ap;rintro lv B⟨l,M,aa⟩;have D:=L.kx l id id;refine⟨D,?_⟩;walk_nrm;have X:Ax u B iO:=((Ax.refl u _).at G).trans l;obtain⟨q1,q2,q3,q4,q5,q6⟩:=S.2.node _ I;simp only at q1 q2 q3 q4 q5 q6;have hl:=S.2.len;have an:=Z5 (path:=p) (ns:=c.ns);apply Ca (i:=6) (On U (C.kx X M λ_ g=>g.elim) (t.kx X id λ_ _=>id) R (S.V.kx X id id id) Z 3 Ae m p d n K k _ (λaf O=>O.16) [.mk 0 iN [Orch.num V.made,Orch.num V.changed,Orch.num V.version,Orch.num ((kids p c.ns).length:Nat)]] lv Ad Ad aa _ parse_state _ (puts_state z (m:=m) (z:=c.num) (e:=0) (a:=V.made) (b:=V.changed) (c:=V.version) (d:=((kids p c.ns).length:Nat)) ab ae z1 z2 Ae Ae Aa Aa Aa Aa Aa Aa Aa Aa) Ao Ao) Ab iP Ac iP Ap;rintro W Q⟨rfl,E⟩;refine⟨D.kx E.K (λg=>g.elim a6 (Gt (t.kx X id λ_ _=>id).own D.1 Ad)) (λg=>g.elim a7 (Gt (t.kx X id λ_ _=>id).own D.2 Ad)),?_⟩;walk_nrm;have hb:KS 3 m c.num p c.ns=be m 4++be c.num 8++be 0 4++be V.made 8++be V.changed 8++be V.version 4++be ((kids p c.ns).length:Nat) 4:=by
   rw[KS,aL Ae,aL Ae,RO S.V.ht I]
   rfl
  exact A9.all Ab ⟨p8 iP,iP,E.W,by rw[hb];exact a8 B Q _ X E⟩ _
end
section
variable {J:hZ}
def Agu(az:Im z F)(C:Cx F y J c u)(TU:TlU y J u){A a b}(aj:Full h z J c y u A a b s se)(cc:a.down=o9)(h8:iR se<=8)(da:(se.map SI.k).Pairwise (·<=·))(db:∀p∈se,keyOf qz 3 (iL p.k)=ni (pkj yi p.k)/\(pkj yi p.k).wf=tu)(bq:∀p∈se,iR p.lo<=9000000000)(i p0)(hi:se[i]?=ni p0)(dc:p0.ver=1)(kind:Nat)(hk:kind=1∨kind=2∨kind=3)(B)(b5:-2147483648<=B)(b6:B<=2147483647)(p d n K k I)(bd:-2147483648<=I)(al:I<=2147483647)(HC:∀L,Cj L A.tb A.5 a.num a.ns->V0 F y L->Calls qz 92 #[iI A.tb,Mx kind p d n K] L λba w'=>ba=xr (iL I)/\iM L w')(br:I=0->Af9 z kind p d n a.ns)(hL:iR a.L<=1000000)(dd:∀f∈a.L,f.d.size<=1000000000000)(de:a.num+1<9223372036854775807):Bg qz tu J N 120 #[iI A.1,iI p0.b,J7 kind B p d n K k] u λx u'=>x=my #[]/\VW J c u'/\∃σ' t X Fq,Full h z J c y u' A σ' t X Fq/\E7 u u' A b t se Fq/\chR kind B p d n I i a (se.map SI.abs) σ' (Fq.map SI.abs):=by
 have S:=aj.1;have hS:=aj.ses;rw[cc]at S;have hm:=aj.map;have dr:=S.2.num0;have ai:∀P,¬J (.cell (iK A.1 P)):=λP Z=>S.V.nv (C.W.2 _ Z);obtain⟨S0,_,_⟩:=hS.one i p0 hi;have cd:p0∈se:=aV hi;have hu:=C.sz;refine Bh func120 Ac iP (R:=λ_=>my #[]) (λ_ _=>pqk Ac _ _ _) (λ_ _=>kmq Ac _ _) ?_;simp only[ntmps120,na,Nat.reduceAdd,Nat.reduceSub];refine Rxn ?_;refine Dl (A7 kind B p d n K k) 131 ?_;walk_nrm;refine Vj2 ?_;have ak:=Ba u (A7 kind B p d n K k) 131 iO;have e:=C.W.alloc (A7 kind B p d n K k) 131;have a7:(u.alloc (jf (A7 kind B p d n K k) 131)).1[iS u.1]?=ni (jf (A7 kind B p d n K k) 131):=sx _ _;generalize u.alloc (jf (A7 kind B p d n K k) 131)=G at ak e a7⊢;refine Ynb λab U=>?_;refine Rxn ?_;refine V2g ?_;refine Bq (cellOf (j:=0) a7 iP) (U 0) ?_;walk_nrm;refine V2g ?_;refine Bq (cellOf (j:=2) a7 iP) (U 2) ?_;walk_nrm;refine V2g ?_;refine Bq (cellOf (j:=3) a7 iP) (U 3) ?_;walk_nrm;refine V2g ?_;refine Bq (cellOf (j:=4) a7 iP) (U 4) ?_;walk_nrm;refine V2g ?_;refine Bq (cellOf (j:=5) a7 iP) (U 5) ?_;walk_nrm;refine B6 (Mx kind p d n K) ?_;walk_nrm;refine Dl (Dx 0 iN iN iN 0) 152 ?_;walk_nrm;have Y:=Ba G (Dx 0 iN iN iN 0) 152 iO;have ay:=e.alloc (Dx 0 iN iN iN 0) 152;have ao:(G.alloc (jf (Dx 0 iN iN iN 0) 152)).1[iS G.1]?=ni (jf (Dx 0 iN iN iN 0) 152):=sx _ _;generalize G.alloc (jf (Dx 0 iN iN iN 0) 152)=aq at Y ay ao⊢;have aw:¬c G.1.size:=λZ=>by have:=e.lt Z;omega
 have a8:∀P,¬J (.cell (iK G.1.size P)):=λP Z=>aw (C.W.2 _ Z);have a6:=Afi (J:=J) (kind:=kind) (p:=p) (d:=d) (n:=n) (v:=K) ao a8;have R:=IW ao kind p d n K;refine Cy (S:=env Lv) (fn:=120) iP Ac (B7 Ab) (A4 _ _) (x:=uw) (v':=putC5 aq G.1.size kind p d n K) (a6 _ iP _ Ac Ac).1 (a6 _ iP _ Ac Ac).2 ?_;walk_nrm;have aa:VW J c (putC5 aq G.1.size kind p d n K):=ay.putC5 _ _ _ _ _ _;generalize putC5 aq G.1.size kind p d n K=u2 at R aa⊢;have cf:Ax G u2 iO:=⟨R.grown.os.trans Y.os,R.grown.tape.trans Y.tape,R.grown.output.trans Y.output,aF Y.size R.grown.size,λP hk _=>(R.grown.block P (aC hk Y.size) (λZ=>by cases Z;omega)).trans (Y.block P hk id)⟩;have O:=ak.trans cf;have S2:=S.kf O;refine Vj2 ?_;refine M8j ?_;have o:=Jg.at (rb:=iS G.1) (rc:=Dx kind p d n K) (rt:=152) (svb:=A.1) (vc:=B9 A.D A.tb A.wm A.sm a.last o9);refine Em (I:=Jg G.1.size (Dx kind p d n K) 152 A.1 (B9 A.D A.tb A.wm A.sm a.last o9)) Ac λd2=>?_;have T:Jg G.1.size (Dx kind p d n K) 152 A.1 (B9 A.D A.tb A.wm A.sm a.last o9) (u2.at d2):=⟨R.blk,S2.V.1⟩;refine A9.tp 0 o Am8 T ?_;walk_nrm;refine A9.tp 1 o Am8 T ?_;walk_nrm;refine A9.tp 2 o Am8 T ?_;walk_nrm;refine A9.tl 3 o Am8 T (λw (hw:Jg _ _ _ _ _ w)=>(cellOf (j:=1) hw.2 iP:w.cell? (iK A.1 1)=ni (iI A.tb))) (ai 1) ?_;walk_nrm;refine A9.take (i:=4) (x:=(Mx kind p d n K)) o Am8 iP Ab Ab Ab (Gq (S:=env Lv) Ac (B7 (fn:=0) Ab) (A4 _ _) ?_) T ?_
 ·exact λw hw=>O1 hw.1 a8 _ _ iP _ Ac
 walk_nrm;refine Ca (i:=5) (Gl (f:=92) (args:=#[iI A.tb,Mx kind p d n K]) Ae (aa.at d2) (X:=λ_=>False) (R:=λx _=>x=iL I) (λ_ _ Z=>Z) λD hs=>(HC D ((S2.V.ht.at d2).sim hs S.V.4 S.V.nm) (((C.kx O aa λ_ Z=>Z.elim).at d2).glob hs)).mono λba w' Z=>⟨⟨_,Z.1,iP⟩,B5 Z.2⟩) Ab iP Ac iP Af ?_;rintro x q⟨cg,af,L3,dt,du,rfl⟩;have bu:=T.kx cg id id;refine⟨bu,?_⟩;walk_nrm;refine A9.tp 6 o Am8 bu ?_;walk_nrm;refine E43 ?_;have bw:Ax u2 q iO:=((Ax.refl u2 _).at d2).trans cg;have bb:=O.trans bw;have bf:=C.kx bb af λ_ Z=>Z.elim;have S3:=S.kf bb;have au:=bw.get (cf.get a7 id) id;have b7:=S0.kx bb id λ_ _=>id;have dv:-9223372036854775808<=a.num:=Aa;have dw:a.num<=9223372036854775807:=Aa;refine Rxn ?_;refine V2g ?_;by_cases hc:I=0
 case neg=>
  refine Bom ?_;refine Od4 ?_;refine Rxn ?_;refine Wad ?_;refine Cy (S:=env Lv) (fn:=120) iP Ac (B7 Ab) (A4 _ _) (x:=J7 kind B p d n K k) (v':=q) (λd'=>(Ju (J:=J) (w:=q.at d') au U _ _ iP _ Ac).1) (λd'=>(Ju (J:=J) (w:=q.at d') au U _ _ iP _ Ac).2) ?_;walk_nrm;refine V2g ?_;refine A3 (VL az bf b7 (by have:=bq p0 cd;omega) S3.V (Gt b7.own S3.V.1 Ad) kind B p d n K k I b5 b6 bd al) iP Ac iP Af ?_;rintro W ae⟨rfl,ad⟩;walk_nrm;refine Vj2 ?_;obtain⟨Fq,F',G',ha⟩:=(aj.kf bb).told bf.sz hi ad;exact Dm ⟨n9 iP,iP,trivial,ad.W,_,_,_,Fq,F',(E7.kf bb).trans G',p8 ⟨hc,iP,ha⟩⟩
 case pos=>
 subst hc;have ok:=br iP;refine Kbk ?_;refine Zln ?_;refine Nqc ?_;refine M8j ?_;have dx:IntKind.i64.wrap (a.num+1)=a.num+1:=by rw[IntKind.wrap_i64];omega
 refine Em (I:=Jg G.1.size (Dx kind p d n K) 152 A.1 (B9 A.D A.tb A.wm A.sm a.last o9)) Ac λQ=>?_;have an:Jg G.1.size (Dx kind p d n K) 152 A.1 (B9 A.D A.tb A.wm A.sm a.last o9) (q.at Q):=bu;refine A9.tp 0 o Am8 an ?_;walk_nrm;refine A9.tp 1 o Am8 an ?_;walk_nrm;refine A9.tp 2 o Am8 an ?_;walk_nrm;refine A9.tp 4 o Am8 an ?_;walk_nrm;refine A9.tp 5 o Am8 an ?_;walk_nrm;refine A9.tp 6 o Am8 an ?_;walk_nrm;refine A9.take (i:=3) (x:=(.agg #[iI A.D])) o Am8 iP Ab Ab Ab (Gq (S:=env Lv) Ac (B7 (fn:=0) Ab) (A4 _ _) ?_) an ?_
 ·exact λw hw=>Ahp hw.2 ai _ _ iP _ Ac
 walk_nrm;refine A9.tl 7 o Am8 an (λw (hw:Jg _ _ _ _ _ w)=>(cellOf (j:=1) hw.2 iP:w.cell? (iK A.1 1)=ni (iI A.tb))) (ai 1) ?_;walk_nrm;refine A9.take (i:=10) (x:=(Mx kind p d n K)) o Am8 iP Ab Ab Ab (Gq (S:=env Lv) Ac (B7 (fn:=0) Ab) (A4 _ _) ?_) an ?_
 ·exact λw hw=>O1 hw.1 a8 _ _ iP _ Ac
 walk_nrm;refine Ca (i:=8) (Gl (f:=42) (args:=#[iI A.tb]) Ae (af.at Q) (X:=λ_=>False) (R:=λx _=>x=iL a.num) (λ_ _ Z=>Z) λD hs=>(Kd D A.tb A.5 a.num a.ns ((S3.V.ht.at Q).sim hs S.V.4 S.V.nm)).mono λba w' Z=>⟨⟨_,Z.1,iP⟩,by rw[Z.2];exact Ax.refl _ _⟩) Ab iP Ac iP Af ?_;rintro x ae⟨cj,W4,L4,dy,dz,rfl⟩;have bx:=an.kx cj id id;refine⟨bx,?_⟩;walk_nrm;have bz:Ax q ae iO:=((Ax.refl q _).at Q).trans cj;have bk:=bb.trans bz;have C4:=C.kx bk W4 λ_ Z=>Z.elim;have S4:=S.kf bk;refine A9.take (i:=9) (x:=iL (a.num+1)) o Am8 iP Ab Ab Ab (JW (S:=env Lv) Ac (B7 (fn:=0) Ab) (A4 _ _) (λw=>by walk_nrm;go_simp) (λw=>by walk_nrm;go_simp)) bx ?_;walk_nrm;have dg:∀r,J (.obj r)->¬(r=A.K∨Fx b=ni r):=λr hr Z=>by
  obtain⟨b8,ho,ck⟩:=W4.3 r hr;rcases Z with Z|Z
  ·rw[Z,S4.st.blk]at ho;cases ho;cases ck
  ·obtain⟨cs,bg⟩:=Kl S4.st.row Z;rw[bg]at ho;cases ho;cases ck
 refine Ca (i:=11) (Gl (f:=160) (args:=#[.agg #[iI A.D],iL (a.num+1),Mx kind p d n K]) Ae W4 (X:=λi=>i=A.K∨Fx b=ni i) (R:=λW w'=>∃ah V D,W=vp ah/\Aem a.left a.L (AU kind (a.num+1) p d n) ah V D/\∃t X,St 58 100 w' A.K V D t X/\∀g,Fx t=ni g->Fx b=ni g∨iS ae.1<=g) dg λD hs=>?_) Ab iP Ac iP Af ?_
 ·have Gv:=C4.glob hs;refine(ZJ az D Gv.tabs (λe0 hW=>Gv.table.below hW Gv.table.pos) A.D A.K a.left a.L b s ((hs.same S.nD).trans S4.7) (S4.st.sim (hs.same S.nK) λg m=>hs.same (S.nf g m)) S.9 S.l1 hL dd (a.num+1) kind p d n K Aa Aa Aa Aa ok.ps ok.pv (by have:=ok.6;omega) ok.7 ok.nv).mono ?_;rintro ba w'⟨ah,V,dh,rfl,hP,t,X,di,hG⟩;exact⟨⟨_,iP,ah,V,dh,iP,hP,t,X,di,λg m=>(hG.own g m).imp id λZ=>by rwa[hs.size]at Z⟩,hG.k⟩
 rintro x v⟨K5,W5,L5,cm,e1,ah,V,D,rfl,c6,t,X,cn,cp⟩;have ag:∀g,Fx t=ni g->¬c g/\y<=g:=λg m=>by
  rcases cp g m with Z|Z
  ·exact⟨S.nf g Z,S.gf g Z⟩
  ·have:=C4.sz;exact⟨λhB=>by have:=W4.lt hB;omega,Aa⟩
 have bh:St 58 100 v A.K V D t X:=cn.sim (cm _ S.nK).symm λg m=>(cm g (ag g m).1).symm;have e2:=ak.size;have e3:=bk.size;have lc:iS G.1<iS u2.1:=ltOf R.blk;have e4:iS G.1<iS ae.1:=by have:=bw.size;have:=bz.size;omega
 have cq:∀{j},(j=A.K∨Fx b=ni j)->j<iS u.1:=λZ=>aj.1.lt aj.map (Z.elim (λZ=>n9 (p8 Z)) λZ=>n9 (n9 (p8 Z)));have b9:∀{j:Nat} {b8:Obj},u.1[j]?=ni b8->(∀bj,b8≠jf bj 58)->(∀bj,b8≠jf bj 100)->¬(j=A.K∨Fx b=ni j):=λhj h1 h2 Z=>by
  rcases Z with Z|Z
  ·subst Z;rw[S.st.blk]at hj;exact h1 _ (aA hj).symm
  ·obtain⟨cs,bg⟩:=Kl S.st.row Z;rw[bg]at hj;exact h2 _ (aA hj).symm
 have xv:=b9 S.V.1 Ad Ad;have xt:=b9 S.V.ht.blk Ad Ad;have xD:=b9 S.7 Ad Ad;have xm:¬(A.5=A.K∨Fx b=ni A.5):=by obtain⟨es,cl,hb⟩:=S.V.ht.map.obj;exact b9 hb Ad Ad
 have xw:¬(A.wm=A.K∨Fx b=ni A.wm):=by obtain⟨es,cl,hb⟩:=Bl.obj S.hw;exact b9 hb Ad Ad
 have xs:¬(A.sm=A.K∨Fx b=ni A.sm):=by obtain⟨es,cl,hb⟩:=hm.obj;exact b9 hb Ad Ad
 have cr:∀j,Ho se j->¬(j=A.K∨Fx b=ni j):=λj hj Z=>aj.1.offS aj.map aj.ses (Z.elim (λZ=>n9 (p8 Z)) λZ=>n9 (n9 (p8 Z))) hj;have ax:Ax u v (λi=>i=A.K∨Fx b=ni i):=(bk.mono λ_ Z=>Z.elim).trans K5;have bm:=bx.kx K5 (λZ=>by have:=cq Z;omega) xv;refine⟨bm,?_⟩;walk_nrm;have bn:-1<=V/\V<=9223372036854775807:=by
  have h1:=S.l1;have d1:=QJ S.9;have d2:=QJ d1.1;rcases c6 with⟨_,_,Z,_⟩|⟨_,_,_,⟨_,_,Z,_⟩|⟨_,_,Z,_⟩⟩<;>rw[Z]<;>constructor<;>omega
 have V5:=S.V.kx ax xv xt xm;have S5:Y9 z c y v A a.last o9 a.num a.ns a.ks V D t X:=⟨V5,S.2,S.3,S.hw.keep (ax.block _ (Bl.lt S.hw) xw),S.5,S.6,ax.get S.7 xD,bh,bn.1,bn.2,S.nw,S.12,S.nD,S.nK,λg m=>(ag g m).1,S.gv,S.gt,S.gm,S.gw,S.gs,S.gD,S.gK,λg m=>(ag g m).2,S.wmb,S.wsm,S.mbs⟩;have bo:Ue h J c y v se:=hS.kx ax cr;have bc:Bl qz 3 v A.sm (E0 (se.map λp=>(p.k,p.b))):=hm.of_block (ax.block _ hm.lt xs);have G5:E7 u v A b t se se:=⟨ax.mono λj Z=>p8 (Z.elim (λZ=>n9 (p8 Z)) λZ=>n9 (n9 (p8 Z))),λg m=>(cp g m).imp id λZ=>Aa,λ_ Z=>p8 Z,iP⟩;have C5:=C.kx ax W5 λj Z=>aj.1.ge (Z.elim (λZ=>n9 (p8 Z)) λZ=>n9 (n9 (p8 Z)));cases ah with
 |false=>
  refine A9.tp 12 o Am8 bm ?_;walk_nrm;refine E43 ?_;refine E37 ?_;refine Rxn ?_;refine Trb ?_;refine Cy (S:=env Lv) iP Ac (B7 Ab) (A4 _ _) (x:=uw) (v':=(v.setCell (iK A.1 5) (vp tu))) (λH=>n9 ⟨by have M:=(show sw (World.at v H) _=_ from(cellOf (j:=5) V5.1 iP));have a1:=(show esk (World.at v H) _=o9 from(Dr (j:=5) V5.1));walk_nrm;go_simp;first|done|rfl,rfl⟩) (λH=>by have M:=(show sw (World.at v H) _=_ from(cellOf (j:=5) V5.1 iP));have a1:=(show esk (World.at v H) _=o9 from(Dr (j:=5) V5.1));walk_nrm;intro av E;simp[go_sem,M,a1,nk _ _ _ _ (Value.slice _ _ _) uwj iP,nk _ _ _ _ (vp _) uwj iP,storedEv]at E;subst E;exact Cl (ai 5)) ?_;walk_nrm;refine Vj2 ?_;have K6:=Et v A.1 5 (vp tu);have W6:=W5.set A.1 5 (vp tu);have cu:(v.setCell (iK A.1 5) (vp tu)).1[A.1]?=ni (jf (B9 A.D A.tb A.wm A.sm a.last tu) 95):=by rw[heap_setCell,aJ iP,V5.1];rfl
  generalize v.setCell (iK A.1 5) (vp tu)=u6 at K6 W6 cu⊢;have W:∀{j:Nat} {b8:Obj},v.1[j]?=ni b8->(∀bj,b8≠jf bj 95)->¬j=A.svb:=λhj h1 Z=>by
   subst Z;rw[V5.1]at hj;exact h1 _ (aA hj).symm
  have F6:Full h z J c y u6 A { a with down:=tu,left:=V,L:=D } t X se:=⟨(⟨⟨cu,S.V.nv,V5.ht.kx K6 (W V5.ht.blk Ad) (by obtain⟨es,cl,hb⟩:=V5.ht.map.obj;exact W hb Ad),S.V.4,S.V.nm,S.V.6,S.V.z2⟩,S.2,S.3,S5.hw.keep (K6.block _ (Bl.lt S5.hw) (by obtain⟨es,cl,hb⟩:=Bl.obj S5.hw;exact W hb Ad)),S.5,S.6,K6.get S5.7 (W S5.7 Ad),bh.kx K6 (W bh.blk Ad) (λg m=>by obtain⟨cs,bg⟩:=Kl bh.row m;exact W bg Ad),bn.1,bn.2,S.nw,S.12,S.nD,S.nK,λg m=>(ag g m).1,S.gv,S.gt,S.gm,S.gw,S.gs,S.gD,S.gK,λg m=>(ag g m).2,S.wmb,S.wsm,S.mbs⟩),bo.kx K6 λj hj Z=>by subst Z;exact S5.offS bc bo (p8 iP) hj,bc.of_block (K6.block _ bc.lt (by obtain⟨es,cl,hb⟩:=bc.obj;exact W hb Ad))⟩;refine Dm ⟨n9 iP,iP,trivial,W6,_,t,X,se,F6,G5.trans ⟨K6.mono λj Z=>p8 (p8 Z),λ_ Z=>p8 Z,λ_ Z=>p8 Z,iP⟩,n9 ⟨iP,o9,V,D,c6,p8 ⟨iP,iP,iP⟩⟩⟩
 |true=>
 refine A9.tp 12 o Am8 bm ?_;walk_nrm;refine E43 ?_;refine Ofi ?_;have ar:Full h z J c y v A { a with left:=V,L:=D } t X se:=⟨by show Y9 z c y v A a.last a.down a.num a.ns a.ks V D t X;rwa[cc],bo,bc⟩;have cw:v.1[iS u.1]?=ni (jf (A7 kind B p d n K k) 131):=K5.get (bz.get au id) (λZ=>by have:=cq Z;omega);have c7:=bm.1;clear S5 bo bc V5 S4 S3 S2 cn bh cr b9 xv xt xD xm xw xs;refine Aw ?_;refine Amy (svb:=A.1) (sb:=p0.b) (r:=J7 kind B p d n K k) (rb:=iS u.1) (cb:=iS G.1) iP λs1=>?_;refine Cr (Aby C5 ar p0.b (J7 kind B p d n K k) kind hk p d n K ok de u.1.size G.1.size c7 aw s1) ?_;rintro e5 e6 u6⟨rfl,⟨s2,rfl⟩,W6,F6,G6⟩;simp only[A0];have C6:=C5.kx G6.K W6 λj Z=>ar.ge Z;have cx:u6.1[iS u.1]?=ni (jf (A7 kind B p d n K k) 131):=G6.K.get cw (ar.off cw iP);have c8:u6.1[iS G.1]?=ni (jf (Dx kind p d n K) 152):=G6.K.get c7 (ar.off c7 iP);have cy:∀ah,(Ms p ah).size<=200/\z (Ms p ah)=tu:=λah=>by
  cases ah
  ·exact⟨ok.ps,ok.pv⟩
  ·exact ok.par
 refine Aw ?_;refine Cr (QF az C6 ((TU.kx ax C.g8 C.sz λj Z=>aj.1.ge (Z.elim (λZ=>n9 (p8 Z)) λZ=>n9 (n9 (p8 Z)))).kx G6.K C.g8 C5.sz λj Z=>ar.ge Z) F6 (λZ=>by rw[Z]at hi;simp at hi) h8 da db bq p0.b (J7 kind B p d n K k) kind hk p d n K ok.ps cy ok.sl u.1.size G.1.size c8 aw s2) ?_;rintro e7 a2 u7⟨rfl,⟨s3,rfl⟩,W7,e8,F7,G7,c9⟩;simp only[A0];have il:i<iR se:=(aD.1 hi).1;obtain⟨l7,cz⟩:∃l,(Dj (a.num+1) p (TT kind) (se.map SI.k) a.ks).1[i]?=ni l:=⟨_,aG (by have:=c9.2;simp only at this;omega)⟩;obtain⟨e9,dj,_⟩:=c9.one i p0 l7 hi cz;have ec:=Q8 (λah=>(cy ah).1) (TS hk) cz;have dk:kind=3->∃x,(p,x)∈Rh kind a.ns p d n (a.num+1):=λZ=>by
  subst Z;obtain⟨x,hx⟩:=ok.1;exact⟨_,Ag3 hx⟩
 refine Cr (WW az (C6.kx G7.K W7 λj Z=>F6.ge Z) F7 i _ dj dc (by have:=bq p0 cd;rw[aM];omega) kind hk B b5 b6 p d n K k ok.pa ok.ps ok.pv dk u.1.size G.1.size (G7.K.get cx (F6.off cx iP)) ab (G7.K.get c8 (F6.off c8 iP)) aw s3) ?_;rintro ed a3 u8⟨he,dm,W8,dp,F8,G8,dq⟩;refine⟨he,dm,trivial,W8,_,t,X,dp,F8,((G5.trans G6).trans G7).trans G8,n9 ⟨iP,tu,V,D,c6,n9 ⟨iP,?_,?_⟩⟩⟩
 ·rw[cY]
  rfl
 ·rw[dq,Abb c9,cY]
  rfl
end
def E8(kind:Nat)(ns:List (hU×Nd))(p d:hU)(ver:Int):Int:=
 if kind=1 then(if Hr p=tu then(if d.size<=40 then CJ ns p else 11) else 8)
 else if kind=2 then(if p=⟨#[47]⟩ then 13 else if Hr p=tu then Yc ns p ver else 8)
 else(if Hr p=tu then(if d.size<=40 then CK ns p ver else 11) else 8)
def Fy(ns:List (hU×Nd))(p:hU):Nd×Int:=
 if Hr p=tu then(match E9 ns p with|some x=>(x,0)|none=>(Nd.zero,10)) else(Nd.zero,8)
def Hn(r:Rq)(i:Nat)(σ:ST)(l:List AS)(σ':ST)(l':List AS):Prop:=
 if r.kind<=3 then chR r.kind r.m r.p r.d iN (E8 r.kind σ.ns r.p r.d r.ver) i σ l σ' l'
 else if r.kind<=6 then σ' = { σ with ks:=Ss ((l[i]?.map AS.k).getD 0) r.kind r.p r.6 (Fy σ.ns r.p).2 σ.ks }/\l'=Hi l i (AA r.kind r.m σ.num (Fy σ.ns r.p).1 (Fy σ.ns r.p).2 (kids r.p σ.ns))
 else σ'=σ/\l'=Hi l i (CP (E r.m 4++E σ.num 8++E 0 4))
def DV{kind p d K}:-2147483648<=E8 kind r p d K/\E8 kind r p d K<=2147483647:=by
 have j:0<=CJ r p/\CJ r p<=15:=by unfold CJ;(repeat' split)<;>omega
 have m:0<=Yc r p K/\Yc r p K<=15:=by unfold Yc;(repeat' split)<;>omega
 have H:0<=CK r p K/\CK r p K<=15:=by unfold CK;(repeat' split)<;>omega
 unfold E8
 (repeat' split)<;>omega
def Zs{p}:-2147483648<=(Fy r p).2/\(Fy r p).2<=2147483647:=by
 unfold Fy
 grind
def EC{p}(h:(Fy r p).2=0):(p,(Fy r p).1)∈r:=by
 unfold Fy at h⊢;split at h
 ·rename_i Q;rw[aJ Q];split at h
  ·rename_i x Z;exact Fe Z
  ·simp at h
 ·simp at h
structure Aa8(se):Prop where
 h8:iR se<=8
 ord:(se.map SI.k).Pairwise (·<=·)
 kw:∀p∈se,keyOf qz 3 (iL p.k)=ni (pkj yi p.k)/\(pkj yi p.k).wf=tu
 lo:∀p∈se,iR p.lo<=9000000000
structure PN(σ:ST):Prop where
 dn:σ.down=o9
 L:iR σ.L<=1000000
 d:∀f∈σ.L,f.d.size<=1000000000000
 num:σ.num+1<9223372036854775807
section
variable {J:hZ}
def PS{g}(h:g.Nodup):(V3 g k).Nodup:=by
 unfold V3
 grind
def WK{g}(h:∀x∈g,Uh x)(E:Uh k):∀x∈V3 g k,Uh x:=λx Z=>by
 unfold V3 at Z
 grind
def Full.looked{A b a}(F:Full h z J c y u A b v s se)(K:Ax u a (· = A.wm)){B}(W:Ld a A.wm B)(e:B.Nodup)(G:∀k∈B,Uh k):Full h z J c y a A { b with ks:=B } v s se/\E7 u a A v v se se:=by
 have S:=F.1;have f:A.has v A.wm:=n9 (n9 (n9 (n9 (n9 (p8 iP)))));refine⟨⟨⟨S.V.kx K (λd=>D7 S.hw S.V.1 d.symm) (λd=>D7 S.hw S.V.ht.blk d.symm) (λd=>S.wmb d.symm),S.2,S.3,W,e,G,K.get S.7 (λd=>D7 S.hw S.7 d.symm),S.st.kx K (λd=>D7 S.hw S.st.blk d.symm) (λi G d=>by have ⟨cs,g⟩:=Kl S.st.row G;exact D7 S.hw g d.symm),S.9,S.l1,S.nw,S.12,S.nD,S.nK,S.nf,S.gv,S.gt,S.gm,S.gw,S.gs,S.gD,S.gK,S.gf,S.wmb,S.wsm,S.mbs⟩,F.ses.kx K (λj l d=>S.offS F.map F.ses f (d▸l)),F.map.of_block (K.block _ F.map.lt (λd=>S.wsm d.symm))⟩,⟨K.mono λj d=>p8 (by rwa[d]),λ_ d=>p8 d,λ_ d=>p8 d,iP⟩⟩
def Apo(a6:Im z F)(C:Cx F y J c u)(TU:TlU y J u){A a}(g:Full h z J c y u A a v s se)(I:Aa8 se)(Q:PN a)(q b)(V:se[q]?=ni b)(E:b.ver=1)(r)(Y:Ajy z r)(HC:r.kind<=3->∀L,Cj L A.tb A.5 a.num a.ns->V0 F y L->Calls qz 92 #[iI A.tb,Mx r.kind r.p r.d iN r.ver] L λe w'=>e=xr (iL (E8 r.kind a.ns r.p r.d r.ver))/\iM L w')(af:r.kind<=3->E8 r.kind a.ns r.p r.d r.ver=0->Af9 z r.kind r.p r.d iN a.ns)(HF:4<=r.kind->r.kind<=6->∀L,Cj L A.tb A.5 a.num a.ns->V0 F y L->Calls qz 163 #[iI A.tb,x7 r.p] L λe w'=>e=xr (my #[(Fy a.ns r.p).1.val,iL (Fy a.ns r.p).2])/\iM L w'):Bg qz tu J N 68 #[iI A.1,iI b.b,J7 r.kind r.m r.p r.d iN r.ver r.6] u λx O=>x=my #[]/\VW J c O/\∃l j o w,Full h z J c y O A l j o w/\E7 u O A v j se w/\Hn r q a (se.map SI.abs) l (w.map SI.abs):=by
 have a7:b∈se:=aV V;have aj:=I.lo b a7;obtain⟨a8,_,_⟩:=g.ses.one q b V;refine Ynb λab U=>?_;obtain⟨kind,m,p,d,K,k⟩:=r;simp only at *;have m0:=Y.m0;have m1:=Y.m1;have k1:=Y.k1;have k7:=Y.2;simp only at m0 m1 k1 k7;refine Bh func68 Ac iP (R:=λ_=>my #[]) (λ_ _=>pqk Ac _ _ _) (λ_ _=>kmq Ac _ _) ?_;simp only[ntmps68,na,Nat.reduceAdd,Nat.reduceSub];refine Rxn ?_;refine Dl (A7 kind m p d iN K k) 131 ?_;walk_nrm;refine Vj2 ?_;have ak:=Ba u (A7 kind m p d iN K k) 131 iO;have W1:=C.W.alloc (A7 kind m p d iN K k) 131;have G:(u.alloc (jf (A7 kind m p d iN K k) 131)).1[iS u.1]?=ni (jf (A7 kind m p d iN K k) 131):=sx _ _;generalize u.alloc (jf (A7 kind m p d iN K k) 131)=i at ak W1 G⊢;have n:=C.kx ak W1 λ_ Z=>Z.elim;have S:=g.kf ak;have D:E7 u i A v v se se:=E7.kf ak;refine Rxn ?_;refine N1m ?_;have W:=λM=>Ju (J:=J) (w:=i.at M) G U;have aa:kind=1∨kind=2∨kind=3->Bg qz tu J N 120 #[iI A.1,iI b.b,J7 kind m p d iN K k] i λx O=>x=my #[]/\VW J c O/\∃l j o w,Full h z J c y O A l j o w/\E7 u O A v j se w/\Hn ⟨kind,m,p,d,K,k⟩ q a (se.map SI.abs) l (w.map SI.abs):=λX=>by
  have h3:kind<=3:=Aa;refine Bp (Agu a6 n (TU.kx ak C.g8 C.sz λ_ Z=>Z.elim) S Q.dn I.h8 I.ord I.kw I.lo q b V E kind X m Aa Aa p d iN K k _ DV.1 DV.2 (HC h3) (af h3) Q.L Q.d Q.num) ?_;rintro x O⟨hx,f,l,j,o,w,R,t,hR⟩;refine⟨hx,f,l,j,o,w,R,D.trans t,?_⟩;unfold Hn;rw[aJ h3];exact hR
 have ad:kind=4∨kind=5∨kind=6->Bg qz tu J N 121 #[iI A.1,iI b.b,J7 kind m p d iN K k] i λx O=>x=my #[]/\VW J c O/\∃l j o w,Full h z J c y O A l j o w/\E7 u O A v j se w/\Hn ⟨kind,m,p,d,K,k⟩ q a (se.map SI.abs) l (w.map SI.abs):=λX=>by
  have B:p.size<=1000:=by have:=Y.p;simp only at this;omega
  have H:Gm h J c i b.b b.k 1 b.en b.6 b.lo:=by rw[←E];exact a8.kx ak id λ_ _=>id
  refine Bp (Aon a6 n S.1.V H Aa g.1.2 g.1.3 a.ks S.1.hw g.1.nw g.1.gw g.1.wmb (I.kw b a7).2 kind X m Aa Aa p d iN K k B _ _ Zs.1 Zs.2 EC (HF Aa Aa)) ?_;rintro x O⟨hx,f,ah,u5,K5,T⟩;have ae:(Ss b.k kind p k (Fy a.ns p).2 a.ks).Nodup/\∀P∈Ss b.k kind p k (Fy a.ns p).2 a.ks,Uh P:=by
   unfold Ss;split
   ·exact⟨PS g.1.5,WK g.1.6 ⟨_,_,_,iP,(I.kw b a7).2,by rcases X with rfl|rfl|rfl<;>decide,B⟩⟩
   ·exact⟨g.1.5,g.1.6⟩
  have ai:Ld u5 A.wm (Ss b.k kind p k (Fy a.ns p).2 a.ks):=by
   have e:O.1[A.wm]?=u5.1[A.wm]?:=T.K.block _ (aC (Bl.lt S.1.hw) K5.size) (by
    rintro(Z|Z)
    ·exact g.1.nw (Z▸a8.inb)
    ·obtain⟨es,cl,hb⟩:=Bl.obj S.1.hw;exact Gt H.own hb Ad Z)
   exact ah.keep e.symm
  obtain⟨F5,G5⟩:=S.looked K5 ai ae.1 ae.2;obtain⟨w,R,t,ha⟩:=F5.told (aF n.sz K5.size) V (E▸T);refine⟨hx,f,_,v,s,w,R,(D.trans G5).trans t,?_⟩;unfold Hn;rw[aL (by simp only;omega),aJ (by simp only;omega)];refine⟨?_,ha⟩;simp[aT,V,SI.abs]
 rcases kinds k1 k7 with rfl|rfl|rfl|rfl|rfl|rfl|rfl
 ·refine Aw ?_;refine Rxn ?_;refine Wad ?_;refine Od4 ?_;refine Nqc ?_;refine E37 ?_;refine Qit ?_;refine Cy (S:=env Lv) (fn:=68) iP Ac (B7 Ab) (A4 _ _) (x:=J7 (1:Nat) m p d iN K k) (v':=i) (λM=>(W M _ _ iP _ Ac).1) (λM=>(W M _ _ iP _ Ac).2) ?_;exact C7z
 ·refine Aw ?_;refine Rxn ?_;refine Wad ?_;refine Zln ?_;refine Rxn ?_;refine Wad ?_;refine Od4 ?_;refine Nqc ?_;refine E37 ?_;refine Qit ?_;refine Cy (S:=env Lv) (fn:=68) iP Ac (B7 Ab) (A4 _ _) (x:=J7 (2:Nat) m p d iN K k) (v':=i) (λM=>(W M _ _ iP _ Ac).1) (λM=>(W M _ _ iP _ Ac).2) ?_;exact C7z
 ·refine Aw ?_;refine Rxn ?_;refine Wad ?_;refine Zln ?_;refine Rxn ?_;refine Wad ?_;refine Zln ?_;refine Qit ?_;refine Od4 ?_;refine Qit ?_;refine Cy (S:=env Lv) (fn:=68) iP Ac (B7 Ab) (A4 _ _) (x:=J7 (3:Nat) m p d iN K k) (v':=i) (λM=>(W M _ _ iP _ Ac).1) (λM=>(W M _ _ iP _ Ac).2) ?_;exact C7z
 ·refine Aw ?_;refine Rxn ?_;refine Wad ?_;refine Zln ?_;refine Rxn ?_;refine Wad ?_;refine Zln ?_;refine Qit ?_;refine Zln ?_;refine M8j ?_;refine Qit ?_;refine Od4 ?_;refine Nqc ?_;refine E37 ?_;refine Qit ?_;refine Cy (S:=env Lv) (fn:=68) iP Ac (B7 Ab) (A4 _ _) (x:=J7 (4:Nat) m p d iN K k) (v':=i) (λM=>(W M _ _ iP _ Ac).1) (λM=>(W M _ _ iP _ Ac).2) ?_;exact Nu8
 ·refine Aw ?_;refine Rxn ?_;refine Wad ?_;refine Zln ?_;refine Rxn ?_;refine Wad ?_;refine Zln ?_;refine Qit ?_;refine Zln ?_;refine M8j ?_;refine Qit ?_;refine Zln ?_;refine Rxn ?_;refine Wad ?_;refine Od4 ?_;refine Nqc ?_;refine E37 ?_;refine Qit ?_;refine Cy (S:=env Lv) (fn:=68) iP Ac (B7 Ab) (A4 _ _) (x:=J7 (5:Nat) m p d iN K k) (v':=i) (λM=>(W M _ _ iP _ Ac).1) (λM=>(W M _ _ iP _ Ac).2) ?_;exact Nu8
 ·refine Aw ?_;refine Rxn ?_;refine Wad ?_;refine Zln ?_;refine Rxn ?_;refine Wad ?_;refine Zln ?_;refine Qit ?_;refine Zln ?_;refine M8j ?_;refine Qit ?_;refine Zln ?_;refine Rxn ?_;refine Wad ?_;refine Zln ?_;refine Qit ?_;refine Od4 ?_;refine Qit ?_;refine Cy (S:=env Lv) (fn:=68) iP Ac (B7 Ab) (A4 _ _) (x:=J7 (6:Nat) m p d iN K k) (v':=i) (λM=>(W M _ _ iP _ Ac).1) (λM=>(W M _ _ iP _ Ac).2) ?_;exact Nu8
 ·refine Aw ?_;refine Rxn ?_;refine Wad ?_;refine Zln ?_;refine Rxn ?_;refine Wad ?_;refine Zln ?_;refine Qit ?_;refine Zln ?_;refine M8j ?_;refine Qit ?_;refine Zln ?_;refine Rxn ?_;refine Wad ?_;refine Zln ?_;refine Qit ?_;refine Zln ?_;refine Qit ?_;refine Cy (S:=env Lv) (fn:=68) iP Ac (B7 Ab) (A4 _ _) (x:=J7 (7:Nat) m p d iN K k) (v':=i) (λM=>(W M _ _ iP _ Ac).1) (λM=>(W M _ _ iP _ Ac).2) ?_;walk_nrm;have H:Gm h J c i b.b b.k 1 b.en b.6 b.lo:=by rw[←E];exact a8.kx ak id λ_ _=>id
  have a1:=puts_error z (m:=m) (z:=a.num) (e:=0) Aa Aa g.1.V.6 g.1.V.z2 Ae Ae;refine A3 (On a6 n H Aa S.1.V (Gt H.own S.1.V.1 Ad) 7 Ae m p d iN K k _ (λL hL=>hL.13) [] (um su 0 0) (λ_=>rfl) Ad (.nil _ _) _ parse_error _ a1 Ao Ao) iP Ac iP Ap ?_;rintro x O⟨rfl,T⟩;refine Vlc ?_;obtain⟨w,R,t,ha⟩:=S.told n.sz V (E▸T);refine⟨p8 trivial,trivial,trivial,T.W,a,v,s,w,R,D.trans t,?_⟩;unfold Hn;rw[aL Ad,aL Ad];exact⟨iP,ha⟩
end
def La(z e:Int):hQ:=CP (E (-2) 4++E z 8++E e 4)
def Zq(z e):(La z e).length=20:=by simp[La,CP,be_length]
def Na(l:List AS)(i:Nat)(b:hQ):List AS:=l.modify i λa=>{ a with en:=tu,lo:=a.lo++b }
def Nf(l:List AS)(i:Nat):List AS:=l.modify i λa=>{ a with ver:=1,lo:=a.lo++[0,0,0,4,0,0,0,1] }
def DT(valid:gZ)(body:hQ)(i:Nat)(σ:ST)(l:List AS)(σ':ST)(l':List AS):Prop:=
 ∃a,l[i]?=ni a /\
  if a.en=tu∨σ.down=tu then σ'=σ/\l'=l
  else if a.ver=0 then σ'=σ/\l'=Nf l i
  else match Hc valid body with
   |none=>σ' = { σ with ks:=GX a.k σ.ks }/\l'=Na l i (La σ.num 3)
   |some r=>Hn r i σ l σ' l'
structure DR(valid Tabs gN tb mb num ns)(r:Rq):Prop where
 HC:r.kind<=3->∀L,Cj L tb mb num ns->V0 Tabs gN L->Calls qz 92 #[iI tb,Mx r.kind r.p r.d iN r.ver] L λe w'=>e=xr (iL (E8 r.kind ns r.p r.d r.ver))/\iM L w'
 ok:r.kind<=3->E8 r.kind ns r.p r.d r.ver=0->Af9 valid r.kind r.p r.d iN ns
 HF:4<=r.kind->r.kind<=6->∀L,Cj L tb mb num ns->V0 Tabs gN L->Calls qz 163 #[iI tb,x7 r.p] L λe w'=>e=xr (my #[(Fy ns r.p).1.val,iL (Fy ns r.p).2])/\iM L w'
section
variable {J:hZ}
def B8.cast{d t}(h:B8 w B g cs t)(e:cs=d):=e▸h
def putR7(w:T)(b:Nat)(kind m:Int)(p d n:hU)(ver:Int)(wt:Bool):T:=((((((w.setCell (iJ b) (iL kind)).setCell (iK b 1) (iL m)).setCell (iK b 2) (x7 p)).setCell (iK b 3) (x7 d)).setCell (iK b 4) (x7 n)).setCell (iK b 5) (iL ver)).setCell (iK b 6) (vp wt)
def IX(h:w.1[b]?=ni (jf (A7 0 0 iN iN iN 0 o9) 131))(kind m p d n K a):B8 w (putR7 w b kind m p d n K a) b (A7 kind m p d n K a) 131:=
 B8.cast ((((((((B8.refl h).set 0 (iL kind)).set 1 (iL m)).set 2 (x7 p)).set 3 (x7 d)).set 4 (x7 n)).set 5 (iL K)).set 6 (vp a)) (by simp[A7])
def Afj{kind m p d n ver wt}(h:w.1[b]?=ni (jf (A7 0 0 iN iN iN 0 o9) 131))(l:∀k,¬J (.cell (iK b k)))(o)(O:o.op=.store 131 (.tmp 6) (.tmp 24))(a:Act)(f:a.eval (.tmp 6)=iI b)(L:a.eval (.tmp 24)=J7 kind m p d n ver wt):(∀M,Go.Pair.Yields Z (execOp a.eval o) (w.at M) uw ((putR7 w b kind m p d n ver wt).at M))/\∀M,∀e∈(execOp a.eval o).events Z (w.at M) #[],Fb J e:=by
 refine⟨λM=>n9 ⟨?_,iP⟩,λM=>?_⟩
 all_goals
  have ⟨y,s,u,S,v,Y,x⟩:=P9 (W:=w.at M) h iP;have ⟨Q,D,K,z,A,r,t,_⟩:=Iv (W:=w.at M) h;unfold execOp;rw[O];simp only[f,L]
 ·go_simp;unfold putR7;simp only[at_set]
 ·intro e E;simp[go_sem,y,s,u,S,v,Y,x,Q,D,K,z,A,r,t,nk _ _ _ _ (Value.string _) uwj iP,nk _ _ _ _ (vp _) uwj iP,storedEv]at E;rcases E with rfl|rfl|rfl|rfl|rfl|rfl|rfl<;>exact Cl (l _)
def VW.putR7(W:VW J Bs w)(b kind m p d n K a):VW J Bs (putR7 w b kind m p d n K a):=((((((W.set _ _ _).set _ _ _).set _ _ _).set _ _ _).set _ _ _).set _ _ _).set _ _ _
def Full.upd{A a}(F:Full h z J Bs y u A a v s se){p}(V:se[i]?=ni p)(K:Ax u O (· = p.b))(b)(D:b.b=p.b)(a6:b.k=p.k)(Y:b.6=p.6)(N:Gm h J Bs O b.b b.k b.ver b.en b.6 b.lo):Full h z J Bs y O A a v s (se.set i b)/\E7 u O A v v se (se.set i b):=by
 have d:i<iR se:=(aD.1 V).1;have t:∀j,j=p.b->Ho se j:=λj l=>⟨i,p,V,p8 l⟩;obtain⟨m,a7,a8⟩:=F.ses.one i p V;have B:((se.set i b).map λp=>(p.k,p.b))=se.map λp=>(p.k,p.b):=by
  apply bK;intro j
  grind
 have o:∀j,Ho (se.set i b) j->Ho se j:=λj⟨k,q,P,f⟩=>by
  by_cases W:i=k
  ·subst W;rw[bI d]at P;obtain rfl:=aA P;unfold SI.has at f;rw[D,Y]at f;exact⟨i,p,V,f⟩
  ·rw[bD W]at P;exact⟨k,q,P,f⟩
 have H:∀j k(q r:SI),(se.set i b)[j]?=ni q->(se.set i b)[k]?=ni r->j≠k->q.b≠r.b/\∀g,q.6.ownBlock=ni g->r.6.ownBlock≠ni g:=λj k q r l P w=>by
  have e:∀(x:Nat)q,(se.set i b)[x]?=ni q->∃U,se[x]?=ni U/\q.b=U.b/\q.6=U.ov:=λx q Z=>by
   by_cases L:i=x
   ·subst L;rw[bI d]at Z;obtain rfl:=aA Z;exact⟨p,V,D,Y⟩
   ·rw[bD L]at Z;exact⟨q,Z,iP,iP⟩
  obtain⟨U,C,E,T⟩:=e j q l;obtain⟨G,I,M,R⟩:=e k r P;rw[E,T,M,R];exact F.ses.apart j k U G C I w
 refine⟨⟨F.1.kx K (λj l c=>F.1.offS F.map F.ses l (t j c)) (λc=>F.1.offD F.ses (t _ c)),⟨λj q l=>?_,H⟩,?_⟩,⟨K.mono λj c=>n9 (t j c),λ_ c=>p8 c,λj l=>p8 (o j l),B⟩⟩
 ·by_cases W:i=j
  ·subst W;rw[bI d]at l;obtain rfl:=aA l;exact⟨N,by rwa[D],by rwa[Y]⟩
  ·rw[bD W]at l;obtain⟨S,aa⟩:=F.ses.apart i j p q V l W;obtain⟨Q,n,X⟩:=F.ses.one j q l;exact⟨Q.kx K (λc=>S c.symm) λg a1 c=>Q.ap _ a1 (by rw[c];exact m.inb),n,X⟩
 ·rw[B];exact F.map.of_block (K.block _ F.map.lt λc=>F.1.offS F.map F.ses (n9 (n9 (n9 (n9 (n9 (n9 iP)))))) (t _ c))
def Gm.setEn{num K en t s}(S:Gm h J Bs u D num K en t s)(v):Gm h J Bs (u.setCell (iK D 4) (vp v)) D num K v t s:=by
 obtain⟨b,e,N,F,T,q,z⟩:=S.row;refine⟨S.inb,S.j,⟨b.setIfInBounds 4 (vp v),by rw[heap_setCell,aJ iP,e];rfl,by simp[N],?_,?_,?_,?_⟩,Di S.own λg G=>Ef _ _ λf=>S.ap g G (f▸S.inb),S.ap,λx Z=>?_⟩
 ·grind
 ·grind
 ·grind
 ·grind
 ·rw[heap_setCell,aJ iP,e]at Z;cases Z
  show(b.setIfInBounds 4 (vp v))[1]?=_/\(b.setIfInBounds 4 (vp v))[2]?=_;exact Cra
def KE(svb:Nat)(vc:iB)(sb:Nat)(sn:Int)(w:T):Prop:=w.1[svb]?=ni (jf vc 95)/\w.cell? (iJ sb)=ni (iL sn)
def KE.at{svb vc sb sn}(w d)(h:KE svb vc sb sn w):KE svb vc sb sn (w.at d):=h
def OV{l a}(V:l[i]?=ni a)(b):Hi (l.set i { a with en:=tu }) i b=Na l i b:=by
 apply bK;intro j;unfold Hi Na
 grind
def An3(af:Im z F)(C:Cx F y J Bs u){A a}(g:Full h z J Bs y u A a v b se)(i c)(V:se[i]?=ni c)(ar:iR c.lo<=9000000000)(K)(al:-2147483648<=K)(an:K<=2147483647):Bg qz tu J N 49 #[iI A.1,iI c.b,iL K] u λx O=>x=my #[]/\VW J Bs O/\∃k,Full h z J Bs y O A { a with ks:=GX c.k a.ks } v b k/\E7 u O A v v se k/\k.map SI.abs=Na (se.map SI.abs) i (La a.num K):=by
 have S:=g.1;obtain⟨ai,g0,_⟩:=g.ses.one i c V;have t:∀d,¬J (.cell (iK A.1 d)):=λd Z=>S.V.nv (C.W.2 _ Z);apply Bh func49 Ac iP (R:=λ_=>my #[]) (λ_ _=>pqk Ac _ _ _) (λ_ _=>kmq Ac _ _);simp only[ntmps49,na,Nat.reduceAdd,Nat.reduceSub];refine Rxn ?_;refine Trb ?_;apply Cy (S:=env Lv) iP Ac (B7 Ab) (A4 _ _) (x:=uw) (v':=(u.setCell (iK c.b 4) (vp tu))) (λH=>n9 ⟨by have M:=(show sw (World.at u H) _=_ from ai.cell.2.2.1);have a1:=(show esk (World.at u H) _=o9 from(ai.fz 4));walk_nrm;go_simp;first|done|rfl,rfl⟩) (λH=>by have M:=(show sw (World.at u H) _=_ from ai.cell.2.2.1);have a1:=(show esk (World.at u H) _=o9 from(ai.fz 4));walk_nrm;intro av E;simp[go_sem,M,a1,nk _ _ _ _ (Value.slice _ _ _) uwj iP,nk _ _ _ _ (vp _) uwj iP,storedEv]at E;subst E;exact Cl (ai.j 4 Ae Ae));walk_nrm;refine Vj2 ?_;have m:=Et u c.b 4 (vp tu);have P:=C.W.set c.b 4 (vp tu);have B:=ai.setEn tu;generalize u.setCell (iK c.b 4) (vp tu)=u1 at m P B⊢;obtain⟨I,G1⟩:=g.upd V m { c with en:=tu } rfl rfl rfl B;have C1:=C.kx m P λj Z=>by rwa[Z]
 have L:(se.set i { c with en:=tu })[i]?=ni { c with en:=tu }:=bI (aD.1 V).1;refine Aw ?_;have l:=KE.at (svb:=A.1) (vc:=B9 A.D A.tb A.wm A.sm a.last a.down) (sb:=c.b) (sn:=c.k);refine Em (I:=KE A.1 (B9 A.D A.tb A.wm A.sm a.last a.down) c.b c.k) Ac λU=>?_;have T:KE A.1 (B9 A.D A.tb A.wm A.sm a.last a.down) c.b c.k (u1.at U):=⟨I.1.V.1,B.cell.1⟩;refine S70 ?_;refine A9.tp 5 l Am4 T ?_;walk_nrm;refine A9.tp 6 l Am4 T ?_;walk_nrm;refine A9.tl 3 l Am4 T (λw (Q:KE _ _ _ _ w)=>(cellOf (j:=2) Q.1 iP:w.cell? (iK A.1 2)=ni (.map (ni A.wm)))) (t 2) ?_;walk_nrm;refine A9.tl 7 l Am4 T (λw (Q:KE _ _ _ _ w)=>(Q.2:w.cell? (iJ c.b)=ni (iL c.k))) (ai.j 0 Ae Ae) ?_;walk_nrm;refine Ca (i:=8) (An4 (P.at U) A.wm c.k a.ks (I.1.hw.keep iP) S.6 S.nw) Ab iP Ac iP Af ?_;rintro x u2⟨rfl,W2,ao,aq⟩;have K2:Ax u1 u2 (· = A.wm):=aq.ofAt;have aa:(GX c.k a.ks).Sublist a.ks:=by unfold GX;exact List.filter_sublist
 obtain⟨Y,G2⟩:=I.looked K2 ao (S.5.sublist aa) (λd hk=>S.6 d (aa.subset hk));obtain⟨S2,_,_⟩:=Y.ses.one i _ L;refine⟨(⟨Y.1.V.1,S2.cell.1⟩),?_⟩;walk_nrm;refine E43 ?_;have C2:=C1.kx K2 W2 λj Z=>by rw[Z];exact S.gw
 refine Ay ?_;refine Ldr ?_;refine Bq (cellOf (j:=1) Y.1.V.1 iP) (t 1) ?_;walk_nrm;refine A3 (Gl (f:=42) (args:=#[iI A.tb]) Ae W2 (X:=λ_=>False) (R:=λx _=>x=iL a.num) (λ_ _ Z=>Z) λR s=>(Kd R A.tb A.5 a.num a.ns (Y.1.V.ht.sim s S.V.4 S.V.nm)).mono λba o Z=>⟨⟨_,Z.1,iP⟩,by rw[Z.2];exact Ax.refl _ _⟩) iP Ac iP Af ?_;rintro x u3⟨K3,X,L3,au,aw,rfl⟩;walk_nrm;refine V2g ?_;refine A3 (Gl (f:=71) (args:=#[iL a.num,iL K]) Ae X (X:=λ_=>False) (R:=λx o=>o.ownsRow u3.1.size 5 1 x (La a.num K).length (A5 (La a.num K))) (λ_ _ Z=>Z) λR s=>?_) iP Ac iP Af ?_
 ·have Gv:=(C2.kx K3 X λ_ Z=>Z.elim).glob s;refine(Ach af R Gv.tabs Gv.table a.num K S.V.6 S.V.z2 al an).mono λba o Z=>?_;exact Dzo
 rintro f ah⟨W,a7,aj,ad,ak,ae⟩;walk_nrm;obtain⟨r,n⟩:=Qt a7 (λi V=>X.lt V) ad ae;have a6:=K3.trans W;have F4:=Y.kf a6;obtain⟨S4,_,_⟩:=F4.ses.one i _ L;have ax:=Zq a.num K;refine A3 (OU a7 S4 f (La a.num K) Aa (by simp only;omega) r λe G=>(n e G).1) iP Ac iP Af ?_;rintro x ab⟨rfl,D⟩;walk_nrm;obtain⟨k,p,q,ha⟩:=F4.told (aF C2.sz a6.size) L D;refine Au ⟨p8 iP,iP,trivial,D.W,k,p,((G1.trans G2).trans (E7.kf a6)).trans q,?_⟩;rw[ha,(fW)];exact OV (a:=c.abs) (by rw[aT,V];rfl) _
def Ue.swap(d:Ue h J Bs y u se){p p'}(V:se[i]?=ni p)(n:y<=iS u.1)(K:Ax u O λj=>j=p.b∨p.6.ownBlock=ni j)(D:p'.b=p.b)(N:Gm h J Bs O p'.b p'.k p'.ver p'.en p'.6 p'.lo)(z:∀g,p'.6.ownBlock=ni g->p.6.ownBlock=ni g∨iS u.1<=g):Ue h J Bs y O (se.set i p'):=by
 obtain⟨o,I,X⟩:=d.one i p V;refine⟨λj q l=>?_,λj k q r l b t=>?_⟩
 ·by_cases W:i=j
  ·grind
  ·rw[bD W]at l;obtain⟨m,a⟩:=d.apart i j p q V l W;obtain⟨Q,x,P⟩:=d.one j q l;refine⟨Q.kx K ?_ λg G=>?_,x,P⟩
   ·rintro(e|e)
    ·exact m e.symm
    ·exact o.ap _ e Q.inb
   ·rintro(e|e)
    ·exact Q.ap _ G (e▸o.inb)
    ·exact a g e G
 ·have v:∀j k(q r:SI),i=j->i≠k->(se.set i p')[j]?=ni q->se[k]?=ni r->q.b≠r.b/\∀g,q.6.ownBlock=ni g->r.6.ownBlock≠ni g:=by
   rintro j k q r rfl M l b;rw[bI ((aD.1 V).1)]at l;obtain rfl:=aA l;obtain⟨m,a⟩:=d.apart i k p r V b M;refine⟨D▸m,λg G Y=>?_⟩;exact G0q
  by_cases C:i=j
  ·have f:i≠k:=λe=>t (C.symm.trans e);rw[bD f]at b;exact v j k q r C f l b
  ·by_cases f:i=k
   ·rw[bD C]at l;obtain⟨P,c⟩:=v k j r q f C b l;exact⟨P.symm,λg G Y=>c g Y G⟩
   ·rw[bD C]at l;rw[bD f]at b;exact d.apart j k q r l b t
def Full.swap{A a}(e:Full h z J Bs y u A a v s se){p p'}(V:se[i]?=ni p)(r:y<=iS u.1)(b:Ax u O λj=>j=p.b∨p.6.ownBlock=ni j)(D:p'.b=p.b)(E:p'.k=p.k)(N:Gm h J Bs O p'.b p'.k p'.ver p'.en p'.6 p'.lo)(c:∀g,p'.6.ownBlock=ni g->p.6.ownBlock=ni g∨iS u.1<=g):Full h z J Bs y O A a v s (se.set i p')/\E7 u O A v v se (se.set i p'):=by
 have t:∀j,(j=p.b∨p.6.ownBlock=ni j)->Ho se j:=λj l=>⟨i,p,V,l⟩;have K:Ax u O (Ho se):=b.mono t;have B:((se.set i p').map λp=>(p.k,p.b))=se.map λp=>(p.k,p.b):=by
  apply bK
  grind
 refine⟨⟨e.1.kx K (λj l=>e.1.offS e.map e.ses l) (e.1.offD e.ses),e.ses.swap V r b D N c,?_⟩,⟨K.mono λ_ e=>n9 e,λ_ e=>p8 e,λj l=>?_,B⟩⟩
 ·exact D60
 ·obtain⟨G,q,E,f⟩:=l;by_cases H:i=G
  ·subst H;rw[bI ((aD.1 V).1)]at E;obtain rfl:=aA E;rcases f with f|f
   ·grind
   grind
  ·rw[bD H]at E;exact p8 ⟨G,q,E,f⟩
def Apf(E:Im z F)(C:Cx F y J Bs u)(t:TlU y J u){A a}(H:Full h z J Bs y u A a v s se)(so:Aa8 se)(sk:PN a)(j b)(V:se[j]?=ni b)(a1:b.ver=1)(body:hQ)(af:iR body<=1000)(T)(ai:BsB Bs u T body)(aj:∀r,Hc z body=ni r->DR z F y A.tb A.5 a.num a.ns r):Bg qz tu J N 48 #[iI A.1,iI b.b,T] u λx O=>x=my #[]/\VW J Bs O/\∃k m I w,Full h z J Bs y O A k m I w/\E7 u O A v m se w/\(match Hc z body with|none=>k = { a with ks:=GX b.k a.ks }/\w.map SI.abs=Na (se.map SI.abs) j (La a.num 3)|some r=>Hn r j a (se.map SI.abs) k (w.map SI.abs)):=by
 obtain⟨a7,_,_⟩:=H.ses.one j b V;have j3:=a7.j 3 Ae Ae;have U:u.cell? (iK b.b 3)=ni (iL 1):=by rw[←a1];exact a7.cell.2.1
 apply Bh func48 Ac iP (R:=λ_=>my #[]) (λ_ _=>pqk Ac _ _ _) (λ_ _=>kmq Ac _ _);simp only[ntmps48,na,Nat.reduceAdd,Nat.reduceSub];refine R5v ?_;refine Trb ?_;refine Bq U j3 ?_;walk_nrm;refine Ths ?_;refine Ofi ?_;refine Rxn ?_;refine Trb ?_;refine Bq U j3 ?_;walk_nrm;refine V2g ?_;refine A3 (Gl (f:=67) (args:=#[iL 1,T]) Ae C.W (X:=λ_=>False) (R:=λx _=>x=Ae3 (Hc z body)) (λ_ _ Z=>Z) λak hs=>(SM E ak (C.glob hs) C.g8 body af T (ai.sim hs)).mono λal w' Z=>⟨⟨_,Z.1,iP⟩,B5 Z.2⟩) iP Ac iP Af ?_;rintro x G⟨K,e,L1,ag,an,rfl⟩;walk_nrm;generalize ab:Hc z body=R;have S:=H.kf K;have n:=C.kx K e λ_ Z=>Z.elim;obtain⟨W,c,l,g,i,p,q,f,hrel⟩:∃(W c:Int)(l g:hU)(i:Int)(p q:Bool),Ae3 R=my #[J7 W c l g iN i p,vp q]/\((R=su/\q=o9)∨∃r,R=ni r/\q=tu/\W=r.kind/\c=r.m/\l=r.p/\g=r.d/\i=r.ver/\p=r.6):=by
  cases R with
  |none=>exact⟨_,_,_,_,_,_,_,iP,p8 ⟨iP,iP⟩⟩
  |some r=>exact⟨_,_,_,_,_,_,_,iP,n9 ⟨r,iP,iP,iP,iP,iP,iP,iP,iP⟩⟩
 rw[f];refine Trb ?_;refine Dl (A7 0 0 iN iN iN 0 o9) 131 ?_;walk_nrm;have Y:=Ba G (A7 0 0 iN iN iN 0 o9) 131 iO;have ad:=e.alloc (A7 0 0 iN iN iN 0 o9) 131;have D:(G.alloc (jf (A7 0 0 iN iN iN 0 o9) 131)).1[iS G.1]?=ni (jf (A7 0 0 iN iN iN 0 o9) 131):=sx _ _;generalize G.alloc (jf (A7 0 0 iN iN iN 0 o9) 131)=B at Y ad D⊢;have aw:¬Bs G.1.size:=λZ=>by have:=e.lt Z;omega
 have a8:∀P,¬J (.cell (iK G.1.size P)):=λP Z=>aw (C.W.2 _ Z);have a6:=Afj (J:=J) (kind:=W) (m:=c) (p:=l) (d:=g) (n:=iN) (ver:=i) (wt:=p) D a8;have ah:=IX D W c l g iN i p;refine Cy (S:=env Lv) (fn:=48) iP Ac (B7 Ab) (A4 _ _) (x:=uw) (v':=putR7 B G.1.size W c l g iN i p) (a6 _ iP _ Ac Ac).1 (a6 _ iP _ Ac Ac).2 ?_;walk_nrm;have aa:VW J Bs (putR7 B G.1.size W c l g iN i p):=ad.putR7 _ _ _ _ _ _ _ _;generalize putR7 B G.1.size W c l g iN i p=Q at ah aa⊢;have o:=K.trans (Y.trans' (Ax.of_grown (X:=(· = iS G.1)) ah.grown (p8 iP)) λao hj aq=>Aa);have C3:=C.kx o aa λ_ Z=>Z.elim;have ae:=H.kf o;refine Ths ?_;refine M8j ?_;refine Mwc ?_;rcases hrel with⟨rfl,rfl⟩|⟨r,rfl,rfl,rfl,rfl,rfl,rfl,rfl,rfl⟩
 ·refine Ths ?_;refine E37 ?_;refine Rxn ?_;refine Wad ?_;refine A3 (An3 E C3 ae j b V (so.lo b (aV V)) 3 Ae Ae) iP Ac iP Ap ?_;rintro x u4⟨rfl,X,w,L,M,d⟩;walk_nrm;refine Vj2 ?_;exact Dm ⟨n9 iP,iP,trivial,X,_,v,s,w,L,(E7.kf o).trans M,iP,d⟩
 ·have rk:=aj r ab;refine Ths ?_;refine Ofi ?_;refine Qit ?_;refine Cy (S:=env Lv) (fn:=48) iP Ac (B7 Ab) (A4 _ _) (x:=J7 r.kind r.m r.p r.d iN r.ver r.6) (v':=Q) (λd'=>(Ju (J:=J) (w:=Q.at d') ah.blk a8 _ _ iP _ Ac).1) (λd'=>(Ju (J:=J) (w:=Q.at d') ah.blk a8 _ _ iP _ Ac).2) ?_;walk_nrm;refine A3 (Apo E C3 (t.kx o C.g8 C.sz λ_ Z=>Z.elim) ae so sk j b V a1 r (AY ab) rk.1 rk.ok rk.3) iP Ac iP Af ?_;rintro x u4⟨rfl,X,k,m,I,w,L,M,hR⟩;walk_nrm;exact Au ⟨p8 iP,iP,trivial,X,k,m,I,w,L,(E7.kf o).trans M,hR⟩
def Amj(d:Im z F)(C:Cx F y J Bs u){A a}(c:Full h z J Bs y u A a v s se)(I:Aa8 se)(i b)(V:se[i]?=ni b)(E:b.ver=0)(T)(e:BsB Bs u T [0,0,0,1]):Bg qz tu J N 48 #[iI A.1,iI b.b,T] u λx O=>x=my #[]/\VW J Bs O/\∃w,Full h z J Bs y O A a v s w/\E7 u O A v v se w/\w.map SI.abs=Nf (se.map SI.abs) i:=by
 have m:=I.lo b (aV V);obtain⟨q,n,f⟩:=c.ses.one i b V;have U:Gm h J Bs u b.b b.k 0 b.en b.6 b.lo:=by rwa[←E]
 apply Bh func48 Ac iP (λ_ _=>pqk Ac _ _ _) (λ_ _=>kmq Ac _ _);simp only[ntmps48,na,Nat.reduceAdd,Nat.reduceSub];refine R5v ?_;refine Trb ?_;apply Bq U.cell.2.1 (q.j 3 Ae Ae);walk_nrm;refine Ths ?_;refine E37 ?_;refine Rxn ?_;refine Trb ?_;apply A3 (Ak3 d C U Aa f (iI A.1) T e) iP Ac iP Af;rintro x Z⟨rfl,g,P,S,j,k⟩;walk_nrm;refine Vj2 ?_;obtain⟨l,D⟩:=c.swap (p':={ b with ver:=1,lo:=b.lo++[0,0,0,4,0,0,0,1],ov:=S }) V C.sz g rfl rfl j k;exact Dm ⟨n9 iP,iP,trivial,P,_,l,D,(by
    apply bK;intro G;unfold Nf;rw[aT,eQ,aT];by_cases H:i=G
    ·exact Ksg
    grind)⟩

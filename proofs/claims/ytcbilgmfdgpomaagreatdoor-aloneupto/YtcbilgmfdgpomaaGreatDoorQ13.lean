import Derived.Test.YtcbilgmfdgpomaaGreatDoorQ12
open List renaming length → iK
set_option maxHeartbeats 4000000
set_option maxRecDepth 8000
set_option linter.all false
open Option renaming some → lj,none → jh
open Go.Proofs.Tryz renaming prog → y7,runUnderlying37 → bar,prog → I
open Go renaming Value → uo,World → gk,undef → qp,Addr → lg,heap_alloc_new → iw,Goroutine → vr,events_store → gog,results_none → ksi,Value → R,World → T
open Bool renaming true → km,false → sd
open Go.Exit renaming normal → uz7
open Go.Conc renaming events_results_none → jil
open Go.Mode renaming plain → lc2
open Go.Lit renaming int → eg5
open Go.World renaming cell? → ur,frozen? → tv,alloc → wd0,heap → gtt,freeze → mhs
open Go.Region renaming wanted → qy
open Array renaming size → gu5,size → iL
open Go.Value renaming bool → gd,string → pc,pointer → pdw,slice → qh,tuple → js
open Go.Obj renaming cells → oh
open Go.IntKind renaming i64 → gh
open Go.Ending renaming returned → k8
open Or renaming inl → r7,inr → kr
open Orch renaming be → E
open Go.Proofs.Tryz Orch
variable {B O u w:T}{Bs X c:gV}{D K M P b cb db g i m n nb rb s sb sm svb t y:Nat}{F:vr->T->Prop}{H en sn:Int}{S k:R}{cs j rc vc:gY}{cu:Nat->R×R}{d:List (R×R)}{fa v:hU}{h:gS}{p q:Prop}{z:gX}
def Ru4(k:q)(h:Hd q->p:=by
 intro kz;refine Bl Tryz.func162 Ac iI (R:=λS=>S.getD 4 undef) (λ_ _=>results_tmp Ac _ _ _) (λ_ _=>events_results_tmp Ac _ _) ?_;exact kz.1):p:=h ⟨k⟩
def Mj0(k:q)(h:Hd q->p:=by
 intro kz;refine A9.tp 0 b d H ?_;walk_nrm;refine A9.tp 1 b d H ?_;walk_nrm;refine A9.tp 2 b d H ?_;walk_nrm;refine A9.tp 4 b d H ?_;walk_nrm;exact kz.1):p:=h ⟨k⟩
def C2w(k:q)(h:Hd q->p:=by
 intro kz;refine Bl Tryz.func162 Ac iI (R:=λS=>S.getD 4 undef) (λ_ _=>results_tmp Ac _ _ _) (λ_ _=>events_results_tmp Ac _ _) ?_;simp only[Tryz.ntmps162,na,Nat.reduceAdd,Nat.reduceSub];exact kz.1):p:=h ⟨k⟩
def Wqv(k:q)(h:Hd q->p:=by
 intro kz;refine Ar ?_;walk_nrm;refine Bp (cellOf (j:=0) E iI) (U 0) ?_;walk_nrm;refine Au ?_;simp only[A1,As];refine Dr ?_;exact kz.1):p:=h ⟨k⟩
def C7u(k:q)(h:Hd q->p:=by
 intro kz;refine Au ?_;simp only[A1,As];refine A3 (t:=true) Ac ?_;simp only[bQ,bR,aR];exact kz.1):p:=h ⟨k⟩
def C1w(k:q)(h:Hd q->p:=by
 intro kz;refine A9.only (i:=10) Ab ?_;have w:=Ba B Nd.zero.cs 87 iH;have a6:=a1.alloc Nd.zero.cs 87;have G:(B.alloc (.cells Nd.zero.cs 87)).1[B.1.size]?=some (.cells Nd.zero.cs 87):=heap_alloc_new _ _;revert w a6 G;exact kz.1):p:=h ⟨k⟩
def Ilg(k:q)(h:Hd q->p:=by
 intro kz;have aa:¬c u.1.size:=λZ=>by have:=C.W.lt Z;omega
 have U:∀N,¬J (.cell ⟨u.1.size,N,none⟩):=λN Z=>aa (C.W.2 _ Z);revert aa U;exact kz.1):p:=h ⟨k⟩
def Sgk(h:p:=by
 refine Dt ?_;simp only[A1,As];refine⟨.inr trivial,trivial,an.trans az,a7,?_⟩;walk_nrm;exact Vh a8 ad ae af):p:=h
def Lgl(k:q)(h:Hd q->p:=by
 intro kz;refine Bt iI Ac ?_;exact kz.1):p:=h ⟨k⟩
def Olu(h:p:=by
 rintro P Q⟨rfl,E⟩;refine⟨R.own E.K a6.own av aw ax Ae,?_⟩;walk_nrm;exact A9.all Ab ⟨.inl iI,iI,E.from l Ib⟩ _):p:=h
def B8n(h:p:=by
 rw[B];exact c.map.of_block (K.block _ c.map.lt (c.1.offS c.map c.ses (.inr (.inr (.inr (.inr (.inr (.inr iI))))))))):p:=h
def Dp5(h:p:=by
 rw[aS,fD,aS];by_cases H:i=g
 ·subst H;rw[bJ (aF.1 V).1,V];simp[SI.abs]
 grind):p:=h
def Uxr(h:p:=by
 rintro P Q⟨rfl,E⟩;refine⟨D.kx E.K (λg=>g.elim Z (Gm (S1.kx X id λ_ _=>id).own D.1 Ad)) (λg=>g.elim a6 (Gm (S1.kx X id λ_ _=>id).own D.2 Ad)),?_⟩;walk_nrm;exact A9.all Ab ⟨.inl iI,iI,E.W,a7 t Q _ X E⟩ _):p:=h
def Vlc(k:q)(h:Hd q->p:=by
 intro kz;walk_nrm;refine Au ?_;simp only[As];exact kz.1):p:=h ⟨k⟩
def Hb9(h:p:=by
 walk_nrm;refine A2 (a8 Aa) iI Ac iI Af ?_;rintro x O⟨rfl,f,Z⟩;walk_nrm;refine Au ?_;simp only[As];exact⟨.inl trivial,trivial,trivial,f,Z⟩):p:=h
def Cai(h:p:=by
 walk_nrm;refine A2 (look Aa) iI Ac iI Af ?_;rintro x O⟨rfl,f,Z⟩;walk_nrm;refine Au ?_;simp only[As];exact⟨.inl trivial,trivial,trivial,f,Z⟩):p:=h
def Ksg(h:p:=by
 subst H;rw[bJ (aF.1 V).1,V];simp[SI.abs]):p:=h
namespace Go.Proofs.YtcbilgmfdgpomaaGreatDoor
variable {L:List Fl}{Q:Exit->Act->T->Prop}{a:Act}{o:Obj}{p':SI}{r:List (gU×Nd)}{rt:TypeId}{se:List SI}{x:Nd}
open Go Go.Conc Go.Pair Go.RowKit Go.Maps
section
variable {J:gW}
def YN(U:It h z)(C:Cx z y J c u){a w f b num}(V:GF c u a w D t M sm f b num r)(G:Rr num r)(p d n v):Bg I km J F 162 #[iB a,M3 1 p d n v] u λl O=>Ax u O iH/\VW J c O/\VsB c O [txt p] l:=by
 have Y:=ltOf V.1;have m:=V.1;have R:=V.ht;have k:=V.4;have K:=V.nm;have q:∀N,¬J (.cell (iD a N)):=λN Z=>V.nv (C.W.2 _ Z);refine C2w ?_;refine Wqw ?_;apply Dk (Du 1 p d n v) 152;walk_nrm;have an:=Ba u (Du 1 p d n v) 152 iH;have P:=C.W.alloc (Du 1 p d n v) 152;have E:(u.alloc (oh (Du 1 p d n v) 152)).1[iL u.1]?=lj (oh (Du 1 p d n v) 152):=iw _ _;generalize u.alloc (oh (Du 1 p d n v) 152)=o at an P E⊢;have g:¬c u.1.size:=λZ=>by have:=C.W.lt Z;omega
 have j:∀N,¬J (.cell (iD u.1.size N)):=λN Z=>g (C.W.2 _ Z);refine Keu ?_;refine Wqw ?_;refine V2g ?_;refine Bp (cellOf (j:=0) E iI) (j 0) ?_;walk_nrm;refine Ro8 ?_;refine Dr ?_;refine Wqw ?_;refine Wad ?_;refine C7u ?_;refine Wqw ?_;refine V2g ?_;refine Bp (cellOf (j:=1) E iI) (j 1) ?_;walk_nrm;refine A2 (LY (f:=193) (args:=#[pc p]) Ae P (X:=λ_=>False) (R:=λx e=>D8 e (λi=>i<iL e.1) [txt p] x) (λ_ _ Z=>Z) λL s=>(Aed L p).mono λA e Z=>⟨Z.1,Bo Z.2⟩) iI Ac iI Af ?_;rintro l B⟨az,a7,H,a8,ad,ae,af⟩;walk_nrm;refine Keu ?_;exact Sgk
def YO(e:It h z)(C:Cx z y J c u){a b d num}(V:GF c u a g m t M sm b d num r)(G:Rr num r)(p o n i):Bg I km J F 162 #[iB a,M3 2 p o n i] u λj O=>Ax u O iH/\VW J c O/\j=qh jh 0 0:=by
 have Y:=ltOf V.1;have R:=V.ht;have k:=V.4;have K:=V.nm;have q:∀N,¬J (.cell (iD a N)):=λN Z=>V.nv (C.W.2 _ Z);refine C2w ?_;refine Wqw ?_;apply Dk (Du 2 p o n i) 152;walk_nrm;have l:=Ba u (Du 2 p o n i) 152 iH;have s:=C.W.alloc (Du 2 p o n i) 152;have E:(u.alloc (oh (Du 2 p o n i) 152)).1[iL u.1]?=lj (oh (Du 2 p o n i) 152):=iw _ _;generalize u.alloc (oh (Du 2 p o n i) 152)=f at l s E⊢;refine Ilg λaa U=>?_;refine Keu ?_;refine Wqw ?_;refine Wqv ?_;refine Wqw ?_;refine Wad ?_;refine Rgq ?_;refine Wqw ?_;refine Wad ?_;refine Rgq ?_;refine Wqw ?_;refine Keu ?_;refine Dt ?_;simp only[A1,As]
 simp_all
def YP(bk:It h z)(C:Cx z y J c u){tb a I num}(V:GF c u svb db tb t M sm a I num r)(tk:Rr num r)(p o n i)(hp:Lk p=km)(b7:p.size<=1000)(x)(hx:(p,x)∈r):Bg y7 km J F 162 #[iB svb,M3 3 p o n i] u λlv u'=>Ax u u' iH/\VW J c u'/\VsB c u' [.mk 0 iG [Orch.num x.made,Orch.num x.changed,Orch.num x.version,Orch.num ((kids p r).length:Nat)]] lv:=by
 have Ib:=ltOf V.1;have hv:=V.1;have nv:=V.nv;have ht:=V.ht;have nt:=V.4;have nm:=V.nm;have jv:∀N,¬J (.cell (iD svb N)):=λN Z=>nv (C.W.2 _ Z);refine C2w ?_;refine Wqw ?_;refine Dk (Du 3 p o n i) 152 ?_;walk_nrm;have K:=Ba u (Du 3 p o n i) 152 iH;have ao:=C.W.alloc (Du 3 p o n i) 152;have E:(u.alloc (oh (Du 3 p o n i) 152)).1[iL u.1]?=lj (oh (Du 3 p o n i) 152):=iw _ _;generalize u.alloc (oh (Du 3 p o n i) 152)=f at K ao E⊢;refine Ilg λaa U=>?_;refine Keu ?_;refine Wqw ?_;refine Wqv ?_;refine Wqw ?_;refine Wad ?_;refine Rgq ?_;refine Wqw ?_;refine Wad ?_;refine C7u ?_;refine Aw ?_;have al:=K.get hv id;have b8:=ht.kx K id id;have b:=Jb.at (rb:=iL u.1) (rc:=Du 3 p o n i) (rt:=152) (svb:=svb) (vc:=B8 db tb M sm a I);refine Da (Q:=λai a' l=>ai=.normal/\∃nb,a'=⟨#[iB svb,M3 3 p o n i,qp,iB u.1.size,qh jh 0 0,iB nb,iE 0,pdw (lj (((iC u.1.size):lg).add 0)),iE 3,gd (decide ((3:Int)=1)),gd (decide ((3:Int)=1)),qp,qp,qp,gd (decide ((3:Int)=3)),gd (decide ((3:Int)=3)),js #[x.val,iE 0],iB svb,iB svb,pdw (lj (((iC svb):lg).add 1)),iB tb,pdw (lj (((iC u.1.size):lg).add 1)),pc p,js #[x.val,iE 0],x.val,iE 0,qp,qp,qp,qp,qp,qp,qp,qp,qp,qp],[]⟩/\iL f.1<=nb/\l.1[nb]?=lj (oh x.cs 87)/\Ax f l iH/\VW J c l) ?_ ?_
 ·refine Em (I:=Jb u.1.size (Du 3 p o n i) 152 svb (B8 db tb M sm a I)) Ac λk=>?_;have d:∀(ar:Act)(q:gk)(d':Nat),(uz7=uz7/\∃nb,ar=⟨#[iB svb,M3 3 p o n i,qp,iB u.1.size,qh jh 0 0,iB nb,iE 0,pdw (lj (((iC u.1.size):lg).add 0)),iE 3,gd (decide ((3:Int)=1)),gd (decide ((3:Int)=1)),qp,qp,qp,gd (decide ((3:Int)=3)),gd (decide ((3:Int)=3)),js #[x.val,iE 0],iB svb,iB svb,pdw (lj (((iC svb):lg).add 1)),iB tb,pdw (lj (((iC u.1.size):lg).add 1)),pc p,js #[x.val,iE 0],x.val,iE 0,qp,qp,qp,qp,qp,qp,qp,qp,qp,qp],[]⟩/\iL f.1<=nb/\q.1[nb]?=lj (oh x.cs 87)/\Ax f q iH/\VW J c q)->(uz7=uz7/\∃nb,ar=⟨#[iB svb,M3 3 p o n i,qp,iB u.1.size,qh jh 0 0,iB nb,iE 0,pdw (lj (((iC u.1.size):lg).add 0)),iE 3,gd (decide ((3:Int)=1)),gd (decide ((3:Int)=1)),qp,qp,qp,gd (decide ((3:Int)=3)),gd (decide ((3:Int)=3)),js #[x.val,iE 0],iB svb,iB svb,pdw (lj (((iC svb):lg).add 1)),iB tb,pdw (lj (((iC u.1.size):lg).add 1)),pc p,js #[x.val,iE 0],x.val,iE 0,qp,qp,qp,qp,qp,qp,qp,qp,qp,qp],[]⟩/\iL f.1<=nb/\(q.at d').1[nb]?=lj (oh x.cs 87)/\Ax f (q.at d') iH/\VW J c (q.at d')):=λar q d'⟨h1,nb,L,h3,h4,h5,h6⟩=>⟨h1,nb,L,h3,h4,h5.at d',h6.at d'⟩;have H:Jb u.1.size (Du 3 p o n i) 152 svb (B8 db tb M sm a I) (f.at k):=⟨E,al⟩;refine Mj0 ?_;refine A9.tl 3 b d H (λq (W:Jb _ _ _ _ _ q)=>(cellOf (j:=1) W.2 iI:q.cell? (iD svb 1)=lj (iB tb))) (jv 1) ?_;walk_nrm;refine A9.tl 5 b d H (λq (W:Jb _ _ _ _ _ q)=>(cellOf (j:=1) W.1 iI:q.cell? (iD u.1.size 1)=lj (pc p))) (U 1) ?_;walk_nrm;have HC:∀q,Ax f q iH->VW J c q->Bg y7 km J F 163 #[iB tb,pc p] q λP l=>Ax q l iH/\VW J c l/\P=js #[x.val,iE 0]:=λq hk hW=>by
   refine Bq (Gg (f:=163) Ae hW (X:=λ_=>False) (R:=λP _=>P=js #[x.val,iE 0]) (λ_ _ Z=>Z) λO Y=>?_) λP l Z=>⟨Z.1,Z.2.1,let⟨_,_,_,Z⟩:=Z.2.2;Z⟩;have Gv:=(C.kx (K.trans hk) hW λ_ Z=>Z.elim).glob Y;obtain⟨b9,hm⟩:=Gv.ml;exact(Sq ((b8.kx hk id id).sim Y nt nm) b9 hm (by have:=Gv.size;have:=C.g8;omega) p b7 hp x hx).mono λai l Z=>⟨⟨_,Z.1,iI⟩,Bo Z.2⟩
  refine KE (i:=6) (j:=10) Ab ?_ ?_
  ·refine MN (HC (f.at k) ((Ax.refl _ _).at k) (ao.at k)) iI Ac iI Af ?_;rintro P B⟨m,a1,rfl⟩;have D:Ax f B iH:=((Ax.refl f _).at k).trans m;refine⟨Jb.kx H m id id,?_⟩;walk_nrm;have s:=Jb.kx H m id id;refine A9.tp 7 b d s ?_;walk_nrm;refine A9.tp 8 b d s ?_;walk_nrm;refine A9.tp 9 b d s ?_;walk_nrm;refine C1w λw a6 G=>?_;refine AE (S:=env Lv) (fn:=0) b d iI Ac (B7 Ab) (A6 _ _) (x:=pdw (lj ⟨gu5 (gtt B),0,jh⟩)) (v':=wd0 B (oh Nd.zero.cs 87)) (λg=>r7 H4) Ak3 (Jb.kx s w id id) ?_;walk_nrm;generalize B.alloc (oh Nd.zero.cs 87)=v at w a6 G⊢;have nn:¬c B.1.size:=λZ=>by have:=a1.lt Z;omega
   have j:=D.trans w;have aq:=Jb.kx s w id id;have SN:=Xx (J:=J) (x:=x) G (λN Z=>nn (C.W.2 _ Z));have T4:=Ns G x;have A:Ax v (putN v B.1.size x) (· = iL B.1):=Ax.of_grown T4.grown (r7 iI);have aj:¬iL u.1=iL B.1:=λZ=>by have h1:=ltOf E;have L:=D.size;omega
   have ak:¬svb=iL B.1:=λZ=>by have h1:=ltOf al;have L:=D.size;omega
   have au:=Jb.kx aq A aj ak;refine Qw (i:=11) (S:=env Lv) (fn:=0) (x:=qp) (v':=putN v B.1.size x) b d Ab iI Ac (B7 Ab) (A6 _ _) (SN _ 5 24 iI _ Ac Ac).1 (SN _ 5 24 iI _ Ac Ac).2 au ?_;walk_nrm;refine A9.tp 12 b d au ?_;walk_nrm;have b5:Ax f (putN v B.1.size x) iH:=⟨A.os.trans j.os,A.tape.trans j.tape,A.output.trans j.output,aE j.size A.size,λN aw _=>(A.block N (aA aw j.size) (λZ=>by have L:=D.size;omega)).trans (j.block N aw λZ=>Z)⟩;exact A9.all Ab ⟨iI,_,iI,D.size,T4.blk,b5,a6.putN _ _⟩ _
  ·have m:=(Ba (f.at k) Nd.zero.cs 87 iH);have a1:=(ao.at k).alloc Nd.zero.cs 87;have ay:((f.at k).alloc (oh Nd.zero.cs 87)).1[(f.at k).1.size]?=lj (oh Nd.zero.cs 87):=iw _ _;have s:=Jb.kx H m id id;refine AE (S:=env Lv) (fn:=0) b d iI Ac (B7 Ab) (A6 _ _) (x:=pdw (lj ⟨gu5 (gtt (f.at k)),0,jh⟩)) (v':=wd0 (f.at k) (oh Nd.zero.cs 87)) (λg=>r7 H4) Ak3 s ?_;walk_nrm;have nn:¬c (f.at k).1.size:=λZ=>by have:=(ao.at k).lt Z;omega
   have D:Ax f ((f.at k).alloc (oh Nd.zero.cs 87)) iH:=((Ax.refl f _).at k).trans m;generalize (f.at k).alloc (oh Nd.zero.cs 87)=B at m a1 ay s D⊢;refine Ca (i:=6) (HC B D a1) Ab iI Ac iI Af ?_;rintro P v⟨w,a6,rfl⟩;refine⟨Jb.kx s w id id,?_⟩;walk_nrm;have aq:=Jb.kx s w id id;refine A9.tp 7 b d aq ?_;walk_nrm;refine A9.tp 8 b d aq ?_;walk_nrm;refine A9.tp 9 b d aq ?_;walk_nrm;have j:=D.trans w;have G:=w.get ay id;have ax:iL f.1<=(f.at k).1.size:=aC _;have SN:=Xx (J:=J) (x:=x) G (λN Z=>nn (C.W.2 _ Z));have T4:=Ns G x;have A:Ax v (putN v (f.at k).1.size x) (· = (f.at k).1.size):=Ax.of_grown T4.grown (r7 iI);have aj:¬iL u.1=(f.at k).1.size:=λZ=>by have h1:=ltOf E;have L:=ax;omega
   have ak:¬svb=(f.at k).1.size:=λZ=>by have h1:=ltOf al;have L:=ax;omega
   have au:=Jb.kx aq A aj ak;refine Qw (i:=11) (S:=env Lv) (fn:=0) (x:=qp) (v':=putN v (f.at k).1.size x) b d Ab iI Ac (B7 Ab) (A6 _ _) (SN _ 5 24 iI _ Ac Ac).1 (SN _ 5 24 iI _ Ac Ac).2 au ?_;walk_nrm;refine A9.tp 12 b d au ?_;walk_nrm;have b5:Ax f (putN v (f.at k).1.size x) iH:=⟨A.os.trans j.os,A.tape.trans j.tape,A.output.trans j.output,aE j.size A.size,λN aw _=>(A.block N (aA aw j.size) (λZ=>by have L:=ax;omega)).trans (j.block N aw λZ=>Z)⟩;exact A9.all Ab ⟨iI,_,iI,ax,T4.blk,b5,a6.putN _ _⟩ _
 ·rintro e' a' B⟨rfl,nb,rfl,ax,ay,m,a1⟩;simp only[A1];have an:=K.trans m;have ba:=m.get E id;have bb:=an.get hv id;have bd:=ht.kx an id id;have bf:¬c nb:=λZ=>by have h1:=C.W.lt Z;have L:=K.size;omega
  have jn:∀N,¬J (.cell (iD nb N)):=λN Z=>bf (C.W.2 _ Z);refine Aw ?_;have e:=DG.at (rb:=iL u.1) (rc:=Du 3 p o n i) (rt:=152) (svb:=svb) (vc:=B8 db tb M sm a I) (nb:=nb) (x:=x);refine Em (I:=DG u.1.size (Du 3 p o n i) 152 svb (B8 db tb M sm a I) nb x) Ac λQ=>?_;have T:DG u.1.size (Du 3 p o n i) 152 svb (B8 db tb M sm a I) nb x (B.at Q):=⟨⟨ba,bb⟩,ay⟩;refine A9.tp 1 e Am6 T ?_;walk_nrm;refine A9.tp 2 e Am6 T ?_;walk_nrm;refine A9.tp 3 e Am6 T ?_;walk_nrm;refine A9.tp 5 e Am6 T ?_;walk_nrm;refine A9.tl 4 e Am6 T (λq (W:DG _ _ _ _ _ _ _ q)=>(cellOf (j:=1) W.1.2 iI:q.cell? (iD svb 1)=lj (iB tb))) (jv 1) ?_;walk_nrm;refine A9.tl 6 e Am6 T (λq (W:DG _ _ _ _ _ _ _ q)=>(cellOf (j:=1) W.1.1 iI:q.cell? (iD u.1.size 1)=lj (pc p))) (U 1) ?_;walk_nrm;refine A9.take (i:=0) (x:=(x.val)) e Am6 iI Ab Ab Ab (Gj (S:=env Lv) Ac (B7 (fn:=0) Ab) (A6 _ _) ?_) T ?_
  ·exact λq W=>IA W.2 jn _ _ iI _ Ac
  walk_nrm;refine Ca (i:=7) (Gg (f:=167) (args:=#[iB tb,pc p]) Ae (a1.at Q) (X:=λ_=>False) (R:=λP _=>∃ar bh,P=qh ar (kids p r).length bh) (λ_ _ Z=>Z) λO Y=>(Pt O tb t num r ((bd.at Q).sim Y nt nm) p (by have:=tk.len;omega) tk.size).mono λai l Z=>⟨let⟨v',h1,L⟩:=Z.1;⟨v',h1,AG L⟩,Bo Z.2⟩) Ab iI Ac iI Af ?_;rintro P ab⟨av,W6,L6,bc,bm,bg,cc,rfl⟩;have b6:=T.kx av id id id;refine⟨b6,?_⟩;walk_nrm;refine A9.tp 8 e Am6 b6 ?_;walk_nrm;refine Ca (i:=9) (LY (f:=169) (args:=#[x.val,iE ((kids p r).length:Nat)]) Ae W6 (X:=λ_=>False) (R:=λP l=>D8 l (λbj=>bj<iL l.1) [.mk 0 iG [Orch.num x.made,Orch.num x.changed,Orch.num x.version,Orch.num ((kids p r).length:Nat)]] P) (λ_ _ Z=>Z) λO Y=>(FK O x.path x.data x.note x.made x.changed x.version ((kids p r).length:Nat)).mono λai l Z=>⟨Z.1,Bo Z.2⟩) Ab iI Ac iI Af ?_;rintro lv u7⟨X,a7,L7,a8,ad,ae,af⟩;have R:=b6.kx X id id id;refine⟨R,?_⟩;walk_nrm;refine A9.tp 10 e Am6 R ?_;walk_nrm;refine Gql ?_;have az:Ax B u7 iH:=(((Ax.refl B _).at Q).trans av).trans X;exact Sgk
end
noncomputable def lkA:Code:=match f121.body with|some (.seq _ (.seq c _))=>c|_=>.skip
noncomputable def lkB:Code:=match f121.body with|some (.seq _ (.seq _ (.seq c _)))=>c|_=>.skip
noncomputable def L5(svb sb:Nat)(r:R)(rb:Nat)(s:hQ):Act:=⟨#[iB svb,iB sb,r,s 3,s 4,iB rb,s 6,s 7,s 8,s 9,s 10,s 11,s 12,s 13,s 14,s 15,s 16,s 17,s 18,s 19,s 20,s 21,s 22,s 23,s 24,s 25,s 26,s 27,s 28,s 29,s 30,s 31,s 32,s 33,s 34,s 35,s 36,s 37,s 38,s 39,s 40,s 41,s 42,s 43,s 44,s 45,s 46,s 47,s 48,s 49,s 50,s 51,s 52,s 53,s 54,s 55,s 56,s 57,s 58,s 59,s 60,s 61,s 62,s 63,s 64,s 65,s 66,s 67,s 68,s 69,s 70,s 71,s 72,s 73,s 74,s 75,s 76,s 77,s 78,s 79,s 80,s 81,s 82,s 83,s 84,s 85,s 86,s 87],[]⟩
noncomputable def LK(svb sb:Nat)(r:R)(rb nb:Nat)(en:Int)(s:hQ):Act:=⟨#[iB svb,iB sb,r,s 3,s 4,iB rb,iB nb,iE en,s 8,s 9,s 10,s 11,s 12,s 13,s 14,s 15,s 16,s 17,s 18,s 19,s 20,s 21,s 22,s 23,s 24,s 25,s 26,s 27,s 28,s 29,s 30,s 31,s 32,s 33,s 34,s 35,s 36,s 37,s 38,s 39,s 40,s 41,s 42,s 43,s 44,s 45,s 46,s 47,s 48,s 49,s 50,s 51,s 52,s 53,s 54,s 55,s 56,s 57,s 58,s 59,s 60,s 61,s 62,s 63,s 64,s 65,s 66,s 67,s 68,s 69,s 70,s 71,s 72,s 73,s 74,s 75,s 76,s 77,s 78,s 79,s 80,s 81,s 82,s 83,s 84,s 85,s 86,s 87],[]⟩
noncomputable def LC(svb sb:Nat)(r:R)(rb nb:Nat)(en:Int)(ca:hU)(ck cc:Nat)(s:hQ):Act:=⟨#[iB svb,iB sb,r,s 3,s 4,iB rb,iB nb,iE en,qh ca ck cc,s 9,s 10,s 11,s 12,s 13,s 14,s 15,s 16,s 17,s 18,s 19,s 20,s 21,s 22,s 23,s 24,s 25,s 26,s 27,s 28,s 29,s 30,s 31,s 32,s 33,s 34,s 35,s 36,s 37,s 38,s 39,s 40,s 41,s 42,s 43,s 44,s 45,s 46,s 47,s 48,s 49,s 50,s 51,s 52,s 53,s 54,s 55,s 56,s 57,s 58,s 59,s 60,s 61,s 62,s 63,s 64,s 65,s 66,s 67,s 68,s 69,s 70,s 71,s 72,s 73,s 74,s 75,s 76,s 77,s 78,s 79,s 80,s 81,s 82,s 83,s 84,s 85,s 86,s 87],[]⟩
def Afx{z r V}(h:a=LK z D r P V en (λj=>a.tmps.getD j qp)):∃s,a=LK z D r P V en s:=⟨_,h⟩
section
variable {G:Nat->R×R}
variable {J:gW}
def Aoe(C:Cx z y J Bs u){tb R Q num}(V:GF Bs u svb db tb t M sm R Q num r)(U)(kind:Nat)(c p e f h k rb)(E:u.1[rb]?=lj (oh (A5 kind c p e f h k) 131))(nr:¬Bs rb)(x:Nd)(en)(HF:∀O,Ck O tb t num r->X1 z y O->Calls y7 163 #[iB tb,pc p] O λa7 l=>a7=k8 (js #[x.val,iE en])/\iF O l)(s):Hp y7 km J F 121 lkA (λa7 a' l=>a7=.normal/\∃a,(∃L,a'=LK svb U (J4 kind c p e f h k) rb a en L)/\iL u.1<=a/\l.1[a]?=lj (oh x.cs 87)/\Ax u l iH/\VW J Bs l) (L5 svb U (J4 kind c p e f h k) rb s) u:=by
 have al:=V.1;unfold lkA L5;simp only[f121];have b:=Jb.at (rb:=rb) (rc:=A5 kind c p e f h k) (rt:=131) (svb:=svb) (vc:=B8 db tb M sm R Q);refine Em (I:=Jb rb (A5 kind c p e f h k) 131 svb (B8 db tb M sm R Q)) Ac λj=>?_;have d:∀(a8:Act)(q:gk)(I:Nat),(uz7=uz7/\∃a,(∃L,a8=LK svb U (J4 kind c p e f h k) rb a en L)/\iL u.1<=a/\q.1[a]?=lj (oh x.cs 87)/\Ax u q iH/\VW J Bs q)->(uz7=uz7/\∃a,(∃L,a8=LK svb U (J4 kind c p e f h k) rb a en L)/\iL u.1<=a/\(q.at I).1[a]?=lj (oh x.cs 87)/\Ax u (q.at I) iH/\VW J Bs (q.at I)):=λa8 q I⟨h0,a,h1,h2,h3,h4,h5⟩=>⟨h0,a,h1,h2,h3,h4.at I,h5.at I⟩;have H:Jb rb (A5 kind c p e f h k) 131 svb (B8 db tb M sm R Q) (u.at j):=⟨E,al⟩;refine Mj0 ?_;refine A9.tl 3 b d H (λq (W:Jb _ _ _ _ _ q)=>(cellOf (j:=1) W.2 iI:q.cell? (iD svb 1)=lj (iB tb))) ((λN Z=>V.nv (C.W.2 _ Z)) 1) ?_;walk_nrm;refine A9.tl 5 b d H (λq (W:Jb _ _ _ _ _ q)=>(cellOf (j:=2) W.1 iI:q.cell? (iD rb 2)=lj (pc p))) ((λN Z=>nr (C.W.2 _ Z)) 2) ?_;walk_nrm;have HC:∀q,Ax u q iH->VW J Bs q->Bg y7 km J F 163 #[iB tb,pc p] q λP l=>Ax q l iH/\VW J Bs l/\P=js #[x.val,iE en]:=λq hk hW=>by
  refine Bq (Gg (f:=163) Ae hW (X:=λ_=>False) (R:=λP _=>P=js #[x.val,iE en]) (λ_ _ Z=>Z) λO Y=>?_) λP l Z=>⟨Z.1,Z.2.1,let⟨_,_,_,Z⟩:=Z.2.2;Z⟩;exact(HF O ((V.ht.kx hk id id).sim Y V.4 V.nm) ((C.kx hk hW λ_ Z=>Z.elim).glob Y)).mono λa7 l Z=>⟨⟨_,Z.1,iI⟩,Bo Z.2⟩
 have rl:=ltOf E;have vl:=ltOf al;refine KE (i:=6) (j:=10) Ab ?_ ?_
 ·refine MN (HC (u.at j) ((Ax.refl _ _).at j) (C.W.at j)) iI Ac iI Af ?_;rintro P B⟨o,a1,rfl⟩;have D:Ax u B iH:=((Ax.refl u _).at j).trans o;refine⟨Jb.kx H o id id,?_⟩;walk_nrm;have n:=Jb.kx H o id id;refine A9.tp 7 b d n ?_;walk_nrm;refine A9.tp 8 b d n ?_;walk_nrm;refine A9.tp 9 b d n ?_;walk_nrm;refine C1w λw a6 G=>?_;refine AE (S:=env Lv) (fn:=0) b d iI Ac (B7 Ab) (A6 _ _) (x:=pdw (lj ⟨gu5 (gtt B),0,jh⟩)) (v':=wd0 B (oh Nd.zero.cs 87)) (λg=>r7 H4) Ak3 (Jb.kx n w id id) ?_;walk_nrm;generalize B.alloc (oh Nd.zero.cs 87)=v at w a6 G⊢;have nn:¬Bs B.1.size:=λZ=>by have:=a1.lt Z;omega
  have aa:=D.trans w;have S:=Jb.kx n w id id;have m:=Tk (J:=J) (x:=x) G (λN Z=>nn (C.W.2 _ Z));have K:=Ns G x;have A:Ax v (putN v B.1.size x) (· = iL B.1):=Ax.of_grown K.grown (r7 iI);have aj:¬rb=iL B.1:=λZ=>by have h2:=D.size;omega
  have ak:¬svb=iL B.1:=λZ=>by have h2:=D.size;omega
  have T:=Jb.kx S A aj ak;refine Qw (i:=11) (S:=env Lv) (fn:=0) (x:=qp) (v':=putN v B.1.size x) b d Ab iI Ac (B7 Ab) (A6 _ _) (m _ iI _ Ac Ac).1 (m _ iI _ Ac Ac).2 T ?_;walk_nrm;refine A9.tp 12 b d T ?_;walk_nrm;have X:Ax u (putN v B.1.size x) iH:=aa.trans' A λi hi Ib=>by have h2:=D.size;omega
  exact A9.all Ab ⟨iI,_,Afx iI,D.size,K.blk,X,a6.putN _ _⟩ _
 ·have o:=(Ba (u.at j) Nd.zero.cs 87 iH);have a1:=(C.W.at j).alloc Nd.zero.cs 87;have ab:((u.at j).alloc (oh Nd.zero.cs 87)).1[(u.at j).1.size]?=lj (oh Nd.zero.cs 87):=iw _ _;have n:=Jb.kx H o id id;refine AE (S:=env Lv) (fn:=0) b d iI Ac (B7 Ab) (A6 _ _) (x:=pdw (lj ⟨gu5 (gtt (u.at j)),0,jh⟩)) (v':=wd0 (u.at j) (oh Nd.zero.cs 87)) (λg=>r7 H4) Ak3 n ?_;walk_nrm;have nn:¬Bs (u.at j).1.size:=λZ=>by have:=(C.W.at j).lt Z;omega
  have D:Ax u ((u.at j).alloc (oh Nd.zero.cs 87)) iH:=((Ax.refl u _).at j).trans o;generalize (u.at j).alloc (oh Nd.zero.cs 87)=B at o a1 ab n D⊢;refine Ca (i:=6) (HC B D a1) Ab iI Ac iI Af ?_;rintro P v⟨w,a6,rfl⟩;refine⟨Jb.kx n w id id,?_⟩;walk_nrm;have S:=Jb.kx n w id id;refine A9.tp 7 b d S ?_;walk_nrm;refine A9.tp 8 b d S ?_;walk_nrm;refine A9.tp 9 b d S ?_;walk_nrm;have aa:=D.trans w;have G:=w.get ab id;have ad:iL u.1<=(u.at j).1.size:=aC _;have m:=Tk (J:=J) (x:=x) G (λN Z=>nn (C.W.2 _ Z));have K:=Ns G x;have A:Ax v (putN v (u.at j).1.size x) (· = (u.at j).1.size):=Ax.of_grown K.grown (r7 iI);have aj:¬rb=(u.at j).1.size:=λZ=>Aa;have ak:¬svb=(u.at j).1.size:=λZ=>Aa;have T:=Jb.kx S A aj ak;refine Qw (i:=11) (S:=env Lv) (fn:=0) (x:=qp) (v':=putN v (u.at j).1.size x) b d Ab iI Ac (B7 Ab) (A6 _ _) (m _ iI _ Ac Ac).1 (m _ iI _ Ac Ac).2 T ?_;walk_nrm;refine A9.tp 12 b d T ?_;walk_nrm;have X:Ax u (putN v (u.at j).1.size x) iH:=aa.trans' A λi hi Ib=>Aa;exact A9.all Ab ⟨iI,_,Afx iI,ad,K.blk,X,a6.putN _ _⟩ _
noncomputable def Nn(sn:Int)(kind:Nat)(pa:gU)(wt:Bool)(en:Int)(ks:gZ):List R:=
 if(wt&&(en==0||(kind==5&&en==10)))=km then Rs ks (Fo sn pa (if kind=6 then 1 else 0)) else ks
def At6(rb:Nat)(rc:gY)(svb:Nat)(vc:gY)(sb:Nat)(sn:Int)(w:T):Prop:=Jb rb rc 131 svb vc w/\w.cell? (iC sb)=lj (iE sn)
def At6.at{rb rc svb vc sb sn}(w d)(h:At6 rb rc svb vc sb sn w):At6 rb rc svb vc sb sn (w.at d):=h
def lookW(C:Cx z y J Bs u){tb j i num}(V:GF Bs u svb db tb t M sm j i num r){a v b c}(S:Gi G J Bs u sb sn a v b c)(g)(W:Lf u M g)(A:¬Bs M)(ad:(eg5 gh sn).wf=km)(kind:Nat)(H:kind=4∨kind=5∨kind=6)(m e f h K n)(ae:e.size<=1000)(rb)(a7:u.1[rb]?=lj (oh (A5 kind m e f h K n) 131))(nr:¬Bs rb)(o en s):Hp y7 km J F 121 lkB (λx a' B=>x=.normal/\(∃l,a'=LK svb sb (J4 kind m e f h K n) rb o en l)/\Ax u B (· = M)/\VW J Bs B/\Lf B M (Nn sn kind e n en g)) (LK svb sb (J4 kind m e f h K n) rb o en s) u:=by
 have U:∀p,¬J (.cell (iD rb p)):=λp Z=>nr (C.W.2 _ Z);have an:∀p,¬J (.cell (iD svb p)):=λp Z=>V.nv (C.W.2 _ Z);have j0:=S.j 0 Ae Ae;have rl:=ltOf a7;have af:∀O,J (.obj O)->¬O=M:=λO hr Z=>by
  exact Fku
 unfold lkB LK;simp only[f121];cases n with
 |false=>
  refine Wqw ?_;refine V2g ?_;refine Bp (cellOf (j:=6) a7 iI) (U 6) ?_;walk_nrm;refine V2g ?_;refine Lgl ?_;walk_nrm;refine Lgl ?_;walk_nrm;refine Lgl ?_;walk_nrm;refine Lgl ?_;walk_nrm;refine Xol ?_;refine Rgq ?_;refine K5o ?_;exact⟨trivial,Afx iI,Ax.refl _ _,C.W,by simpa[Nn] using W⟩
 |true=>
 refine Wqw ?_;refine V2g ?_;refine Bp (cellOf (j:=6) a7 iI) (U 6) ?_;walk_nrm;refine Wad ?_;refine Bp (cellOf (j:=0) a7 iI) (U 0) ?_;walk_nrm;refine V2g ?_;refine A2 (Gg (f:=164) (args:=#[iE kind,iE en]) Ae C.W (X:=λ_=>False) (R:=λq _=>q=gd (en==0||((kind:Int)==5&&en==10))) (λ_ _ Z=>Z) λL P=>(ME L kind en).mono λx B Z=>⟨⟨_,Z.1,iI⟩,by rw[Z.2];exact Ax.refl _ _⟩) iI Ac iI Af ?_;rintro q E⟨I,W3,L3,av,aw,rfl⟩;walk_nrm;have ah:((kind:Int)==5)=(kind==5):=by rcases H with rfl|rfl|rfl<;>rfl
 rw[ah];unfold Nn;rw[gB];generalize ax:(en==0||(kind==5&&en==10))=mw;cases mw with
 |false=>
  refine Xol ?_;refine Rgq ?_;refine K5o ?_;exact⟨trivial,Afx iI,I.mono λ_ Z=>Z.elim,W3,by simpa using W.keep (I.block _ (Bi.lt W) id)⟩
 |true=>
 refine Mdt ?_;refine C7u ?_;have ai:=I.get a7 id;have aj:=I.get V.1 id;have a8:Lf E M g:=W.keep (I.block _ (Bi.lt W) id);have S3:=S.kx I id λ_ _=>id;have ak:¬rb=M:=λZ=>D3 W a7 Z.symm;have N:=At6.at (rb:=rb) (rc:=A5 kind m e f h K km) (svb:=svb) (vc:=B8 db tb M sm j i) (sb:=sb) (sn:=sn);refine Em (I:=At6 rb (A5 kind m e f h K km) svb (B8 db tb M sm j i) sb sn) Ac λQ=>?_;have T:∀(R:Act)(d:gk)(k:Nat),(uz7=uz7/\(∃l,R=LK svb sb (J4 kind m e f h K km) rb o en l)/\Ax u d (· = M)/\VW J Bs d/\Lf d M (if km=km then Rs g (Fo sn e (if kind=6 then 1 else 0)) else g))->(uz7=uz7/\(∃l,R=LK svb sb (J4 kind m e f h K km) rb o en l)/\Ax u (d.at k) (· = M)/\VW J Bs (d.at k)/\Lf (d.at k) M (if km=km then Rs g (Fo sn e (if kind=6 then 1 else 0)) else g)):=λR d k⟨h0,h1,h2,h3,h4⟩=>⟨h0,h1,h2.at k,h3.at k,h4.keep iI⟩;have w:At6 rb (A5 kind m e f h K km) svb (B8 db tb M sm j i) sb sn (E.at Q):=⟨⟨ai,aj⟩,S3.cell.1⟩;refine Eqy ?_;refine A9.tp 4 N T w ?_;walk_nrm;refine A9.tp 5 N T w ?_;walk_nrm;refine A9.tp 6 N T w ?_;walk_nrm;refine A9.tp 8 N T w ?_;walk_nrm;refine A9.tp 10 N T w ?_;walk_nrm;refine A9.tl 3 N T w (λd (W:At6 _ _ _ _ _ _ d)=>(cellOf (j:=2) W.1.2 iI:d.cell? (iD svb 2)=lj (.map (lj M)))) (an 2) ?_;walk_nrm;refine A9.tl 7 N T w (λd (W:At6 _ _ _ _ _ _ d)=>(W.2:d.cell? (iC sb)=lj (iE sn))) j0 ?_;walk_nrm;refine A9.tl 9 N T w (λd (W:At6 _ _ _ _ _ _ d)=>(cellOf (j:=2) W.1.1 iI:d.cell? (iD rb 2)=lj (pc e))) (U 2) ?_;walk_nrm;refine A9.tl 11 N T w (λd (W:At6 _ _ _ _ _ _ d)=>(cellOf (j:=0) W.1.1 iI:d.cell? (iC rb)=lj (iE kind))) (U 0) ?_;walk_nrm;refine Ca (i:=12) (Gg (f:=166) (args:=#[iE kind]) Ae (W3.at Q) (X:=λ_=>False) (R:=λq _=>q=iE (if kind=6 then 1 else 0)) (λ_ _ Z=>Z) λL P=>(TJ L kind).mono λx B Z=>⟨⟨_,Z.1,by rcases H with rfl|rfl|rfl<;>rfl⟩,by rw[Z.2];exact Ax.refl _ _⟩) Ab iI Ac iI Af ?_;rintro q Y⟨aa,W4,L4,ay,az,rfl⟩;have X:Ax E Y iH:=((Ax.refl E _).at Q).trans aa;have S4:=S3.kx X id λ_ _=>id;have a1:At6 rb (A5 kind m e f h K km) svb (B8 db tb M sm j i) sb sn Y:=⟨w.1.kx aa id id,S4.cell.1⟩;refine⟨a1,?_⟩;walk_nrm;refine A9.tp 13 N T a1 ?_;walk_nrm;have ab:Lf Y M g:=a8.keep (X.block _ (Bi.lt a8) id);have al:(eg5 gh (if kind=6 then 1 else 0:Int)).wf=km:=by rcases H with rfl|rfl|rfl<;>decide
 refine Ca (i:=14) (Gg (f:=165) (args:=#[.map (lj M),Fo sn e (if kind=6 then 1 else 0)]) Ae W4 (X:=(· = M)) (R:=λq B=>q=js #[]/\Lf B M (Rs g (Fo sn e (if kind=6 then 1 else 0)))) af λL P=>(Ajx (ab.keep (P.same A)) ad al ae).mono λx B Z=>⟨⟨_,Z.1,iI,Z.2.1⟩,Z.2.2⟩) Ab iI Ac iI Af ?_;rintro q u5⟨a6,W5,b5,ao,b6,rfl,aq⟩;have ar:Lf u5 M (Rs g (Fo sn e (if kind=6 then 1 else 0))):=aq.keep (ao _ A).symm;have S5:=S4.kx a6 (λZ=>A (Z▸S.inb)) λb8 hg Z=>by
  subst Z;obtain⟨es,cl,D⟩:=Bi.obj ab;exact Gm S4.own D Ad hg
 have au:At6 rb (A5 kind m e f h K km) svb (B8 db tb M sm j i) sb sn u5:=⟨a1.1.kx a6 ak Am5,S5.cell.1⟩;refine⟨au,?_⟩;walk_nrm;exact A9.all Ab ⟨iI,Afx iI,((I.trans X).mono λ_ Z=>Z.elim).trans a6,W5,by simpa using ar⟩ _
end
def V7(kind:Nat)(m z:Int)(x:Nd)(L:gQ):gT:=
 if kind=4 then E m 4++E z 8++E 0 4++E x.data.size 4++x.data.data.toList++E x.made 8++E x.changed 8++E x.version 4++E (iK L:Nat) 4
 else if kind=5 then E m 4++E z 8++E 0 4++E x.made 8++E x.changed 8++E x.version 4++E (iK L:Nat) 4
 else E m 4++E z 8++E 0 4++E (iK L) 4++txB L
def Xp(kind:Nat)(m z:Int)(x:Nd)(en:Int)(L:gQ):gT:=if en=0 then Zr (V7 kind m z x L) else CG m z en
noncomputable def lkF:Code:=match f121.body with|some (.seq _ (.seq _ (.seq _ (.seq _ (.seq _ (.seq _ c))))))=>c|_=>.skip
section
variable {G:Nat->R×R}
variable {J:gW}
def DG.own{z G V t}{X:gZ}(h:DG P j rt z G V x w)(K:Ax w B (λi=>i=D∨t.ownBlock=lj i))(O:w.ownsRow 0 5 1 t n X)(C:P≠D)(J:z≠D)(T:V≠D)(a:rt≠5):=
 h.kx K (λe=>e.elim C (Gm O h.1.1 (λc e=>by cases e;exact a iI))) (λe=>e.elim J (Gm O h.1.2 Ad)) (λe=>e.elim T (Gm O h.2 Ad))
def At7(rb:Nat)(rc:gY)(rt:TypeId)(svb:Nat)(vc:gY)(nb:Nat)(x:Nd)(sb:Nat)(w:T):Prop:=DG rb rc rt svb vc nb x w/\w.cell? (iD sb 3)=lj (iE 1)
def At7.at{rb rc rt svb vc nb x sb}(w d)(h:At7 rb rc rt svb vc nb x sb w):At7 rb rc rt svb vc nb x sb (w.at d):=h
def Aof(ao:It h z)(C:Cx z y J Bs u){tb I c num}(V:GF Bs u svb db tb g M sm I c num r){v t f}(S:Gi G J Bs u sb H 1 v t f)(aq:iK f<=10000000000)(kind:Nat)(hk:kind=4∨kind=5∨kind=6)(m)(aa:-2147483648<=m)(ab:m<=2147483647)(j d n K k rb)(ak:u.1[rb]?=lj (oh (A5 kind m j d n K k) 131))(nr:¬Bs rb)(nb x)(hn:u.1[nb]?=lj (oh x.cs 87))(nn:¬Bs nb)(hx:0<=x.made/\x.made<=num/\0<=x.changed/\x.changed<=num/\0<=x.version/\x.version<=2147483647)(b5:x.data.size<=40)(L:gQ)(hL:iK L<=32)(ar:∀s∈L,s.size<=24/\h s=km)(ca:hU)(cc)(ay:∀aj (hj:aj<iK L),∃ah al,ca=lj (iD ah al)/\ah<iL u.1/\¬Bs ah/\u.cell? ⟨ah,al+aj,jh⟩=lj (pc L[aj]))(s)(az:s 57=iE kind):Hp y7 km J F 121 lkF (λe a' B=>(e=.normal∨e=.ret)/\a'.defers = []/\Told G J Bs u B sb H 1 v t f (Zr (V7 kind m num x L))) (LC svb sb (J4 kind m j d n K k) rb nb 0 ca (iK L) cc s) u:=by
 have U:∀p,¬J (.cell (iD rb p)):=λp Z=>nr (C.W.2 _ Z);have an:∀p,¬J (.cell (iD nb p)):=λp Z=>nn (C.W.2 _ Z);have j3:=S.j 3 Ae Ae;have rl:=ltOf ak;have nl:=ltOf hn;have au:=Gm S.own V.1 Ad;have Ib:=S.lt;obtain⟨n1,n2,n3,n4,n5,n6⟩:=hx;have z1:=V.6;have z2:=V.z2;have av:rb≠sb:=λZ=>nr (Z▸S.inb);have aw:svb≠sb:=λZ=>V.nv (Z▸S.inb);have ax:nb≠sb:=λZ=>nn (Z▸S.inb);unfold lkF LC;simp only[f121,az];have A:=DG.at (rb:=rb) (rc:=A5 kind m j d n K k) (rt:=131) (svb:=svb) (vc:=B8 db tb M sm I c) (nb:=nb) (x:=x);have T:∀(a:Act)(q:gk)(o:Nat),((uz7=uz7∨uz7=Exit.ret)/\a.defers = []/\Told G J Bs u q sb H 1 v t f (Zr (V7 kind m num x L)))->((uz7=uz7∨uz7=Exit.ret)/\a.defers = []/\Told G J Bs u (q.at o) sb H 1 v t f (Zr (V7 kind m num x L))):=λa q o⟨h1,h2,h3⟩=>⟨h1,h2,h3.at o⟩;rcases hk with rfl|rfl|rfl
 ·
  refine Dr ?_;refine Wqw ?_;refine Mdt ?_;refine Keu ?_;refine N5y ?_;have N:=At7.at (rb:=rb) (rc:=A5 4 m j d n K k) (rt:=131) (svb:=svb) (vc:=B8 db tb M sm I c) (nb:=nb) (x:=x) (sb:=sb);refine Em (I:=At7 rb (A5 4 m j d n K k) 131 svb (B8 db tb M sm I c) nb x sb) Ac λw=>?_;have D:At7 rb (A5 4 m j d n K k) 131 svb (B8 db tb M sm I c) nb x sb (u.at w):=⟨⟨⟨ak,V.1⟩,hn⟩,S.cell.2.1⟩;refine A9.tp 0 N T D ?_;walk_nrm;refine A9.tp 1 N T D ?_;walk_nrm;refine A9.tp 3 N T D ?_;walk_nrm;refine A9.tp 4 N T D ?_;walk_nrm;refine A9.tp 5 N T D ?_;walk_nrm;refine A9.tp 8 N T D ?_;walk_nrm;refine A9.tp 9 N T D ?_;walk_nrm;refine A9.tl 6 N T D (λq (W:At7 _ _ _ _ _ _ _ _ q)=>(W.2:q.cell? (iD sb 3)=lj (iE 1))) j3 ?_;walk_nrm;refine A9.take (i:=2) (x:=(J4 4 m j d n K k)) N T iI Ab Ab Ab (Gj (S:=env Lv) Ac (B7 (fn:=0) Ab) (A6 _ _) ?_) D ?_
  ·exact λq W=>Jo W.1.1.1 U _ _ iI _ Ac
  walk_nrm;refine A9.take (i:=7) (x:=(x.val)) N T iI Ab Ab Ab (Gj (S:=env Lv) Ac (B7 (fn:=0) Ab) (A6 _ _) ?_) D ?_
  ·exact λq W=>IA W.1.2 an _ _ iI _ Ac
  walk_nrm;refine Ca (i:=10) (LY (f:=168) (args:=#[iE 1,x.val,iE (iK L:Nat)]) Ae (C.W.at w) (X:=λ_=>False) (R:=λP B=>D8 B (λb=>b<iL B.1) [txt x.data,.mk 0 iG [Orch.num x.made,Orch.num x.changed,Orch.num x.version,Orch.num (iK L:Nat)]] P) (λ_ _ Z=>Z) λO Y=>(PY O x.path x.data x.note x.made x.changed x.version (iK L:Nat)).mono λe B Z=>⟨Z.1,Bo Z.2⟩) Ab iI Ac iI Af ?_;rintro lv u7⟨X,a7,L7,a8,ad,ae,af⟩;have l:Ax u u7 iH:=((Ax.refl u _).at w).trans X;have a6:=S.kx l id λ_ _=>id;have R:At7 rb (A5 4 m j d n K k) 131 svb (B8 db tb M sm I c) nb x sb u7:=⟨D.1.kx X id id id,a6.cell.2.1⟩;refine⟨R,?_⟩;walk_nrm;have C7:=C.kx l a7 λi Z=>Z.elim;have a1:=puts_get h (m:=m) (z:=num) (e:=0) (s:=x.data) (a:=x.made) (b:=x.changed) (c:=x.version) (d:=(iK L:Nat)) aa ab z1 z2 Ae Ae Aa Aa Aa Aa Aa Aa Aa Aa Aa;have ai:iK x.data.data.toList=x.data.size:=iI;refine Ca (i:=11) (Om ao C7 a6 aq (V.kx l id id id) au 4 Ae m j d n K k _ (λL hL=>hL.11) [txt x.data,.mk 0 iG [Orch.num x.made,Orch.num x.changed,Orch.num x.version,Orch.num (iK L:Nat)]] lv Ad Ad (Vh a8 ad ae af) _ parse_get _ a1 Ap HA) Ab iI Ac iI D2 ?_;rintro P Q⟨rfl,E⟩;obtain⟨b6,S8,_⟩:=E.S;refine⟨⟨R.1.own E.K a6.own av aw ax Ae,S8.cell.2.1⟩,?_⟩;walk_nrm;exact A9.all Ab ⟨r7 iI,iI,E.from l Ib⟩ _
 ·
  refine Dr ?_;refine Wqw ?_;refine Xol ?_;refine Keu ?_;refine Fhg ?_;refine Wqw ?_;refine Mdt ?_;refine Keu ?_;refine N5y ?_;refine Em (I:=DG rb (A5 5 m j d n K k) 131 svb (B8 db tb M sm I c) nb x) Ac λw=>?_;have D:DG rb (A5 5 m j d n K k) 131 svb (B8 db tb M sm I c) nb x (u.at w):=⟨⟨ak,V.1⟩,hn⟩;refine A9.tp 0 A T D ?_;walk_nrm;refine A9.tp 1 A T D ?_;walk_nrm;refine A9.tp 4 A T D ?_;walk_nrm;refine A9.tp 5 A T D ?_;walk_nrm;refine A9.take (i:=2) (x:=(J4 5 m j d n K k)) A T iI Ab Ab Ab (Gj (S:=env Lv) Ac (B7 (fn:=0) Ab) (A6 _ _) ?_) D ?_
  ·exact λq W=>Jo W.1.1 U _ _ iI _ Ac
  walk_nrm;refine A9.take (i:=3) (x:=(x.val)) A T iI Ab Ab Ab (Gj (S:=env Lv) Ac (B7 (fn:=0) Ab) (A6 _ _) ?_) D ?_
  ·exact λq W=>IA W.2 an _ _ iI _ Ac
  walk_nrm;refine Ca (i:=6) (LY (f:=169) (args:=#[x.val,iE (iK L:Nat)]) Ae (C.W.at w) (X:=λ_=>False) (R:=λP B=>D8 B (λb=>b<iL B.1) [.mk 0 iG [Orch.num x.made,Orch.num x.changed,Orch.num x.version,Orch.num (iK L:Nat)]] P) (λ_ _ Z=>Z) λO Y=>(FK O x.path x.data x.note x.made x.changed x.version (iK L:Nat)).mono λe B Z=>⟨Z.1,Bo Z.2⟩) Ab iI Ac iI Af ?_;rintro lv u7⟨X,a7,L7,a8,ad,ae,af⟩;have R:=D.kx X id id id;refine⟨R,?_⟩;walk_nrm;have l:Ax u u7 iH:=((Ax.refl u _).at w).trans X;have C7:=C.kx l a7 λi Z=>Z.elim;have a6:=S.kx l id λ_ _=>id;have a1:=puts_state h (m:=m) (z:=num) (e:=0) (a:=x.made) (b:=x.changed) (c:=x.version) (d:=(iK L:Nat)) aa ab z1 z2 Ae Ae Aa Aa Aa Aa Aa Aa Aa Aa;refine Ca (i:=7) (Om ao C7 a6 aq (V.kx l id id id) au 5 Ae m j d n K k _ (λL hL=>hL.17) [.mk 0 iG [Orch.num x.made,Orch.num x.changed,Orch.num x.version,Orch.num (iK L:Nat)]] lv Ad Ad (Vh a8 ad ae af) _ parse_state _ a1 Al Al) Ab iI Ac iI D2 ?_;exact Olu
 ·
  refine Dr ?_;refine Wqw ?_;refine Xol ?_;refine Keu ?_;refine Fhg ?_;refine Wqw ?_;refine Xol ?_;refine Keu ?_;refine Fhg ?_;refine Em (I:=DG rb (A5 6 m j d n K k) 131 svb (B8 db tb M sm I c) nb x) Ac λw=>?_;have D:DG rb (A5 6 m j d n K k) 131 svb (B8 db tb M sm I c) nb x (u.at w):=⟨⟨ak,V.1⟩,hn⟩;refine A9.tp 0 A T D ?_;walk_nrm;refine A9.tp 1 A T D ?_;walk_nrm;refine A9.tp 3 A T D ?_;walk_nrm;refine A9.take (i:=2) (x:=(J4 6 m j d n K k)) A T iI Ab Ab Ab (Gj (S:=env Lv) Ac (B7 (fn:=0) Ab) (A6 _ _) ?_) D ?_
  ·exact λq W=>Jo W.1.1 U _ _ iI _ Ac
  walk_nrm;refine Ca (i:=4) (LY (f:=170) (args:=#[qh ca (iK L) cc]) Ae (C.W.at w) (X:=λ_=>False) (R:=λP B=>D8 B (λb=>b<iL B.1) [.mk 0 iG (L.map txt)] P) (λ_ _ Z=>Z) λO Y=>(Adm O ca cc L Aa λaj hj=>let⟨ah,al,h1,h2,h3,h4⟩:=ay aj hj;⟨ah,al,h1,by rw[Y.size];exact h2,(Cg (Y.same h3)).trans h4⟩).mono λe B Z=>⟨Z.1,Bo Z.2⟩) Ab iI Ac iI Af ?_;rintro lv u7⟨X,a7,L7,a8,ad,ae,af⟩;have R:=D.kx X id id id;refine⟨R,?_⟩;walk_nrm;have l:Ax u u7 iH:=((Ax.refl u _).at w).trans X;have C7:=C.kx l a7 λi Z=>Z.elim;have a6:=S.kx l id λ_ _=>id;have b7:=VT λs Y=>(ar s Y).1;have a1:=puts_list h (m:=m) (z:=num) (e:=0) (L:=L) aa ab z1 z2 Ae Ae hL (λs Y=>⟨by have:=(ar s Y).1;omega,(ar s Y).2⟩) Aa;refine Ca (i:=5) (Om ao C7 a6 aq (V.kx l id id id) au 6 Ae m j d n K k _ (λL hL=>hL.12) [.mk 0 iG (L.map txt)] lv Ad Ad (Vh a8 ad ae af) _ parse_list _ a1 Ap Ap) Ab iI Ac iI D2 ?_;exact Olu
def Aml{svb sb r rb c}(h:a=L5 svb sb r rb (λj=>a.tmps.getD j qp))(H:∀s,Hp I km J F 121 c Q (L5 svb sb r rb s) w):Hp I km J F 121 c Q a w:=by
 rw[h];exact H _
def Amm{svb sb r rb nb en ca ck cc x57 c}(h:a=LC svb sb r rb nb en ca ck cc (λj=>a.tmps.getD j qp))(k:a.tmps.getD 57 qp=x57)(H:∀s,s 57=x57->Hp I km J F 121 c Q (LC svb sb r rb nb en ca ck cc s) w):Hp I km J F 121 c Q a w:=by
 grind
def Aog(az:It h z)(C:Cx z y J Bs u){tb O g num ns}(V:GF Bs u svb db tb t M sm O g num ns){v b a}(S:Gi G J Bs u sb H 1 v b a)(ak:iK a<=10000000000)(tk:Rr num ns)(tn:TrN h ns)(d)(W:Lf u M d)(nw:¬Bs M)(gw:y<=M)(ax:M≠t)(ay:(eg5 gh H).wf=km)(kind:Nat)(hk:kind=4∨kind=5∨kind=6)(B)(b5:-2147483648<=B)(b6:B<=2147483647)(p o n K k)(b9:p.size<=1000)(x en)(bd:-2147483648<=en)(au:en<=2147483647)(br:en=0->(p,x)∈ns)(HF:∀c,Ck c tb t num ns->X1 z y c->Calls y7 163 #[iB tb,pc p] c λai l=>ai=k8 (js #[x.val,iE en])/\iF c l):Bg y7 km J F 121 #[iB svb,iB sb,J4 kind B p o n K k] u λP u'=>P=js #[]/\VW J Bs u'/\Lf u' M (Nn H kind p k en d)/\∃q,Ax u q (· = M)/\Told G J Bs q u' sb H 1 v b a (Xp kind B num x en (kids p ns)):=by
 have aa:¬Bs u.1.size:=λZ=>by have:=C.W.lt Z;omega
 have U:∀N,¬J (.cell (iD u.1.size N)):=λN Z=>aa (C.W.2 _ Z);have jv:∀N,¬J (.cell (iD svb N)):=λN Z=>V.nv (C.W.2 _ Z);have aw:=Bi.lt W;refine Bl func121 Ac iI (R:=λ_=>js #[]) (λ_ _=>ksi Ac _ _ _) (λ_ _=>jil Ac _ _) ?_;simp only[ntmps121,na,Nat.reduceAdd,Nat.reduceSub];refine Jp3 λu1 X ae Y=>?_;have a6:=C.kx X ae λ_ Z=>Z.elim;have V1:=V.kx X id id id;refine Aw ?_;refine Aml (svb:=svb) (sb:=sb) (r:=J4 kind B p o n K k) (rb:=iL u.1) iI λs1=>?_;refine Da (Aoe a6 V1 sb kind B p o n K k u.1.size Y aa x en HF s1) ?_;rintro e1 bx u2⟨rfl,nb,⟨s2,rfl⟩,bz,ba,al,W2⟩;simp only[A1];have f:=X.trans al;have C2:=C.kx f W2 λ_ Z=>Z.elim;have V2:=V.kx f id id id;have S2:=S.kx f id λ_ _=>id;have an:=al.get Y id;have bb:Lf u2 M d:=W.keep (f.block _ aw id);refine Aw (Da (lookW C2 V2 S2 d bb nw ay kind hk B p o n K k b9 u.1.size an aa nb en s2) ?_);rintro e2 a2 q⟨rfl,⟨s3,rfl⟩,a7,a1,m⟩;simp only[A1];have A:Ax u q (· = M):=(f.mono λ_ Z=>Z.elim).trans a7;have bf:=C.kx A a1 λi Z=>by rw[Z];exact gw
 have a8:=V.kx A Am5 (λZ=>D3 W V.ht.blk Z.symm) (λZ=>ax Z.symm);have b7:=S.kx A (λZ=>nw (Z▸S.inb)) λr b8 Z=>by
  subst Z;obtain⟨es,cl,E⟩:=Bi.obj W;exact Gm S.own E Ad b8
 have ar:q.1[iL u.1]?=lj (oh (A5 kind B p o n K k) 131):=a7.get an (λZ=>Aa);have nn:¬Bs nb:=λZ=>by have h1:=C.W.lt Z;have L:=X.size;omega
 have bh:¬nb=M:=λZ=>by have L:=X.size;omega
 have bj:=a7.get ba bh;have bk:=Gm b7.own a8.1 Ad;unfold LK;refine M8j ?_;refine Tfz ?_;by_cases h0:en=0
 case neg=>
  refine Mdt ?_;refine C7u ?_;refine Wqw ?_;refine Wad ?_;refine Cy (S:=env Lv) (fn:=121) iI Ac (B7 Ab) (A6 _ _) (x:=J4 kind B p o n K k) (v':=q) (λd'=>(Jo (J:=J) (w:=q.at d') ar U _ _ iI _ Ac).1) (λd'=>(Jo (J:=J) (w:=q.at d') ar U _ _ iI _ Ac).2) ?_;walk_nrm;refine V2g ?_;refine A2 (VI az bf b7 ak a8 bk kind B p o n K k en b5 b6 bd au) iI Ac iI Af ?_;rintro P ab⟨rfl,ad⟩;walk_nrm;refine Ro8 ?_;refine Dt ⟨kr iI,iI,trivial,ad.W,m.keep (ad.K.block _ (Bi.lt m) ?_),q,A,?_⟩
  ·rintro(Z|Z)
   ·exact nw (Z▸S.inb)
   ·obtain⟨es,cl,E⟩:=Bi.obj m;exact Gm b7.own E Ad Z
  ·rw[Xp,aM h0];exact ad
 case pos=>
 subst h0;have hx:=br iI;refine Xol ?_;refine Rgq ?_;refine K5o ?_;refine Aw ?_;have e:=Jb.at (rb:=iL u.1) (rc:=A5 kind B p o n K k) (rt:=131) (svb:=svb) (vc:=B8 db tb M sm O g);refine Em (I:=Jb u.1.size (A5 kind B p o n K k) 131 svb (B8 db tb M sm O g)) Ac λQ=>?_;have T:Jb u.1.size (A5 kind B p o n K k) 131 svb (B8 db tb M sm O g) (q.at Q):=⟨ar,a8.1⟩;refine Zcg ?_;refine A9.tl 3 e Am6 T (λw (W:Jb _ _ _ _ _ w)=>(cellOf (j:=1) W.2 iI:w.cell? (iD svb 1)=lj (iB tb))) (jv 1) ?_;walk_nrm;refine A9.tl 5 e Am6 T (λw (W:Jb _ _ _ _ _ w)=>(cellOf (j:=2) W.1 iI:w.cell? (iD u.1.size 2)=lj (pc p))) (U 2) ?_;walk_nrm;refine Ca (i:=6) (Gg (f:=167) (args:=#[iB tb,pc p]) Ae (a1.at Q) (X:=λ_=>False) (R:=λP l=>l.ownsRow q.1.size 9 1 P (kids p ns).length (strs (kids p ns))) (λ_ _ Z=>Z) λc hs=>(Pt c tb t num ns ((a8.ht.at Q).sim hs V.4 V.nm) p (by have:=tk.len;omega) tk.size).mono λai l Z=>⟨let⟨v',h1,L⟩:=Z.1;⟨v',h1,by rw[hs.size]at L;exact L⟩,Bo Z.2⟩) Ab iI Ac iI Af ?_;rintro P ab⟨av,W6,L6,bc,bm,bg⟩;have R:=T.kx av id id;refine⟨R,?_⟩;have ck:iL q.1<=(q.at Q).1.size:=aC _;have af:ab.ownsRow q.1.size 9 1 P (kids p ns).length (strs (kids p ns)):=Gy bg λr b8 _=>(bc r λhB=>by have:=a1.lt hB;omega).symm
 obtain⟨ca,cc,rfl⟩:=AG af;walk_nrm;refine A9.tp 7 e Am6 R ?_;walk_nrm;refine Gql ?_;have D:Ax q ab iH:=((Ax.refl q _).at Q).trans av;have bn:Ax u ab (· = M):=A.trans (D.mono λ_ Z=>Z.elim);have C6:=bf.kx D W6 λ_ Z=>Z.elim;have V6:=a8.kx D id id id;have S6:=b7.kx D id λ_ _=>id;have bo:=D.get bj id;have ah:Lf ab M (Nn H kind p k 0 d):=m.keep (D.block _ (Bi.lt m) id);have c6:=Z1 (path:=p) (ns:=ns);have c7:=tk.len;refine Wqw ?_;refine V2g ?_;refine Bp (cellOf (j:=0) R.1 iI) (U 0) ?_;walk_nrm;refine Ro8 ?_;refine Amm (svb:=svb) (sb:=sb) (r:=J4 kind B p o n K k) (rb:=iL u.1) (nb:=nb) (en:=0) (ca:=ca) (ck:=(kids p ns).length) (cc:=cc) (x57:=iE kind) iI iI λs4 bq=>?_;refine Da (Aof az C6 V6 S6 ak kind hk B b5 b6 p o n K k u.1.size R.1 aa nb x bo nn (tk.node _ hx) (tn.nm _ hx).2.2 (kids p ns) Aa (λs hs=>?_) ca cc (λj aj=>?_) s4 bq) ?_
 ·obtain⟨ao,hq,rfl⟩:=LQ hs;exact⟨(tn.nm ao hq).1,(tn.nm ao hq).2.1⟩
 ·rcases af with⟨_,⟨Z,h'⟩|⟨r,c8,bu,bw,c9,aq,h1,L,h3,h4⟩⟩
  ·omega
  ·injection bw with e1 e2 e3;subst e1;refine⟨r,0,iI,ltOf aq,λhB=>by have:=a1.lt hB;omega,?_⟩;have I:(bu.toList.take ((kids p ns).length * 1))[j]?=lj (pc (kids p ns)[j]):=by
    rw[h4];simp[strs,aH aj]
   rw[dD Aa,cN]at I;rw[aX];exact cellOf aq I
 ·rintro e3 a3 u8⟨he,hd,T8⟩;refine⟨he,hd,trivial,T8.W,ah.keep (T8.K.block _ (Bi.lt ah) ?_),ab,bn,?_⟩
  ·rintro(Z|Z)
   ·exact nw (Z▸S.inb)
   ·obtain⟨es,cl,E⟩:=Bi.obj ah;exact Gm S6.own E Ad Z
  ·rw[Xp,aL iI];exact T8
end
def Ig(w:T)(g)(cs:gY)(h:w.1[g]?=lj (oh cs 5))(i):(w.freeze ⟨g,cs.size,jh⟩ 1).1[i]?=if i=g then lj (oh cs 5 (cs.size,cs.size+1)) else w.1[i]?:=by
 by_cases e:i=g
 ·subst e;simp[mhs,bS,h]
 ·rw[aM e];simp[mhs,bS,dG e]
def Fx(w:T)(a):(w.freeze a 1).1.size=iL w.1:=by simp[mhs]
def Xl(w:T)(g)(cs:gY)(h:w.1[g]?=lj (oh cs 5))(a):(w.freeze ⟨g,cs.size,jh⟩ 1).cell? a=w.cell? a:=by
 unfold ur;rw[Ig w g cs h]
 grind
section
variable {Y:PA y z} {d:FuncId} {g:Array Oper} {l:hZ} {o:Oper} {c:Nat} {x:R}
def Akg{H J}{b:Frame}{k z}(O:∀j,¬J (.cell (iD c j)))(D:w.1[c]?=lj (oh cs 5))(v:cs≠#[])(y:∀n:Ren,cs.map (Az n)=cs)(L:g[i]?=lj o)(ae:qy o (yielded g a.tmps)=km)(Z:Az (.up w.1.size) x=x)(S:b.kind≠.early)(U:∀n(W:gk),n.Fix prog.globals.size->W.1[sh n c]?=lj (oh cs 5)->(Fp a o n).run y7 W=.ok (.value (Az n x)) (W.freeze ⟨sh n c,cs.size,jh⟩ 1)/\(Fp a o n).events y7 W #[]=#[])(a1:∀M,EN y7 H J (G (b.at (a.put o.dst x) (.inRegion g l::k)) z) ((w.freeze ⟨c,cs.size,jh⟩ 1).at M)):EN y7 H J (G (b.at a (.inRegion g (i::l)::k)) z) w:=by
 intro n W E s d;have p:W.1[sh n c]?=lj (oh cs 5):=by
  have:=s.row (i:=c) D v O;rw[this,y]
 have B:qy o (yielded g (Bw n a).tmps)=km:=by
  exact C0b
 refine Ends.step iI λM=>?_;obtain⟨r1,r2⟩:=U n (W.at M) s.fix p;have F:=stepG_value (P:=y7) (main:=km) (b:=b) (a:=Bw n a) (rest:=l) (k:=k.map (Df n)) (cs:=z.map (Bj n)) (w:=W.at M) L B S r1;rw[Nt,listed_nil r2]at F;refine⟨_,_,_,F,by rw[Fx];exact aC _,λe u=>by simp at u,?_⟩;rw[deafBehind_still λe u=>by simp at u];have X:∀j,((w.freeze ⟨c,cs.size,jh⟩ 1).at M).1[j]?=if j=c then lj (oh cs 5 (cs.size,cs.size+1)) else w.1[j]?:=λj=>Ig w c cs D j
 have q:∀j,((W.at M).freeze ⟨sh n c,cs.size,jh⟩ 1).1[j]?=if j=sh n c then lj (oh cs 5 (cs.size,cs.size+1)) else W.1[j]?:=λj=>Ig (W.at M) (sh n c) cs p j
 have af:Bn (.up w.1.size) (G (b.at (a.put o.dst x) (.inRegion g l::k)) z)=G (b.at (a.put o.dst x) (.inRegion g l::k)) z:=by
  have h:=s.wf.2;have a6:z.map (Bj (.up w.1.size))=z:=aJ Goroutine.callers h;have Y:(Bw (.up w.1.size) a).defers=a.defers:=aJ (λr:vr=>r.frame.defers) h;have K:((.inRegion g (i::l)::k:List Item).map (Df (.up w.1.size)))=.inRegion g (i::l)::k:=aJ (λr:vr=>r.frame.todo) h;have a7:k.map (Df (.up w.1.size))=k:=by
   rw[bC]at K;exact(fF K).2
  have e6:Bw (.up w.1.size) a=a:=by
   show Act.mk _ _=a;have:(Bw (.up w.1.size) a).tmps=a.tmps:=(aJ (λr:vr=>r.frame.tmps) h);cases a;simp only[Bw]at this Y⊢;rw[this,Y]
  rw[Ep,Gn,a6,←Nt,e6,Z,bC,a7]
  rfl
 have aj:Di y7 n J (H.Own E) (G (b.at (a.put o.dst x) (.inRegion g l::k)) z) ((w.freeze ⟨c,cs.size,jh⟩ 1).at M) ((W.at M).freeze ⟨sh n c,cs.size,jh⟩ 1):=by
  refine Di.recast (s.at M) (Fx _ _) (by rw[Fx];exact aC _) ((s.sm 0).tape) ?_ ((s.sm 0).os) ((s.sm 0).output) (Fx _ _) (λj ob Q=>?_) ⟨λj ob Q=>?_,?_⟩ λl R Q=>?_
  ·rfl
  ·rw[X]at Q;rw[q];split at Q
   ·rename_i e;subst e;obtain rfl:=aB Q;rw[aL iI];exact⟨_,iI,r7 (by simp only[Dq];rw[y])⟩
   ·rename_i e;rw[aM λh=>e (Gq h)];exact(s.sm 0).4 j ob Q
  ·have N:((w.freeze ⟨c,cs.size,jh⟩ 1).at M).1.size=iL w.1:=Fx _ _;rw[N];rw[X]at Q;split at Q
   ·obtain rfl:=aB Q;exact r7 (by simp only[Dq];rw[y])
   ·exact s.wf.mem j ob Q
  ·have N:((w.freeze ⟨c,cs.size,jh⟩ 1).at M).1.size=iL w.1:=Fx _ _
   rwa[N]
  ·refine s.own l ?_ Q;cases l with
   |cell I=>
    obtain⟨a8,aa⟩:=R;exact⟨a8,(Xl w c cs D I).symm.trans aa⟩
   |obj t=>
    obtain⟨ob,C,f⟩:=R;rw[X]at C;split at C
    ·obtain rfl:=aB C;exact absurd f (by simp[Cj])
    ·exact⟨ob,C,f⟩
   |mark ah=>exact R
   |output=>exact R
   |goroutines=>exact R
 refine a1 M n _ E aj ⟨λl h=>by rw[Fx];exact d.low l h,d.blk,d.off,⟨λI ab=>(Xl (W.at M) (sh n c) cs p I).trans (d.kept.cell I ab),λt ad e fz C f=>?_,λt ob C f T=>?_⟩,λi V=>⟨(d.nn i V).1,by rw[Fx];exact(d.nn i V).2⟩⟩
 ·obtain⟨c',T,m⟩:=d.kept.row t ad e fz C f;refine⟨c',?_,m⟩;rw[q,aM λA=>?_]
  ·exact T
  ·subst A;rw[p]at T;cases T;rcases f with rfl|⟨j,P⟩
   ·exact v (dS (by simpa using m))
   ·exact(λhl=>Ado s d.kept D v O (λj P=>(s.own (.cell (iD c j)) ⟨_,(Ci D j).trans (aO P)⟩ (O j)).2) hl) (show M9 (sh n c) (.cell ⟨sh n c,j,jh⟩) from iI) P
 ·have m:=d.kept.obj t ob C f T;rw[q,aM λA=>?_]
  ·exact m
  ·subst A;rw[p]at m;exact T _ _ _ (aB m).symm
def MS{B a}(p:De B a w)(D:w.1[c]?=lj (oh cs 5))(k:¬B c):(Cb B a w).freeze ⟨c,cs.size,jh⟩ 1=Cb B a (w.freeze ⟨c,cs.size,jh⟩ 1):=by
 have o:(Cb B a w).1[c]?=lj (oh cs 5):=by rwa[By k]
 have e:((Cb B a w).freeze ⟨c,cs.size,jh⟩ 1).1=(Cb B a (w.freeze ⟨c,cs.size,jh⟩ 1)).heap:=by
  apply bX;intro j;rw[Ig _ c cs o];by_cases P:j=c
  ·subst P;rw[aL iI,By k,Ig w j cs D,aL iI]
  ·rw[aM P,Q7,Q7,Ig w c cs D,aM P]
 show World.mk _ _ _ _ _=World.mk _ _ _ _ _;simp only[World.mk.injEq];exact⟨e,iI,iI,iI,iI⟩
def Ad2{R}{Y:PA y R}(D:w.1[c]?=lj (oh cs 5))(f:cs≠#[])(k:∀n:Ren,cs.map (Az n)=cs)(O:g[i]?=lj o)(v:qy o (yielded g a.tmps)=km)(Z:Az (.up w.1.size) x=x)(r:∀n(W:gk),n.Fix prog.globals.size->W.1[sh n c]?=lj (oh cs 5)->(Fp a o n).run y7 W=.ok (.value (Az n x)) (W.freeze ⟨sh n c,cs.size,jh⟩ 1)/\(Fp a o n).events y7 W #[]=#[])(F:opsV y7 km Ec (Mz Y) d g l Q (a.put o.dst x) (w.freeze ⟨c,cs.size,jh⟩ 1)):opsV y7 km Ec (Mz Y) d g (i::l) Q a w:=by
 intro s t z G E L;refine EV.stop λH p N K=>?_;have u:¬Y.2 c:=λh=>by
  obtain⟨b,e,A,_,J⟩:=p.blank c h;have T:w.1[c]?=lj (oh #[] e A):=J;rw[D]at T;cases T;exact f iI
 have I:(World.at w H).1[c]?=lj (oh cs 5):=D;refine Akg (λj h=>?_) (by rwa[By u]) f k O v (by rwa[Bh]) (by rw[E];decide) r λM=>?_
 ·obtain⟨S,e,P⟩:=PA.jx h;cases e;exact u P
 rw[MS p I u];have X:∀j,((w.freeze ⟨c,cs.size,jh⟩ 1).at M).1[j]?=if j=c then lj (oh cs 5 (cs.size,cs.size+1)) else w.1[j]?:=λj=>Ig w c cs D j
 have q:De Y.2 Y.base ((w.freeze ⟨c,cs.size,jh⟩ 1).at M):=⟨λj m=>by
  obtain⟨b,e,A,C,J⟩:=p.blank j m;exact⟨b,e,A,C,by rwa[X,aM (fun(e:j=c)=>u (e▸m))]⟩⟩
 have B:Plain ((w.freeze ⟨c,cs.size,jh⟩ 1).at M):=λj U m=>by
  rw[X]at m;split at m
  ·obtain rfl:=aB m
   trivial
  ·exact N j U m
 show EN y7 Y.H Y.JX _ (Cb Y.2 Y.base ((w.freeze ⟨c,cs.size,jh⟩ 1).at M));exact EN.ofP (H0 Y.rows q B) (EV.show Y.6 Y.rows q (EV.at (F s t z G E L) M))
def SP(w g m c)(cs:gY)(h:w.1[g]?=lj (oh cs 5)):(convert 37 37 (qh (lj (iC g)) m c)).run I w=.ok (qh (lj (iC g)) m c) (w.freeze ⟨g,cs.size,jh⟩ 1)/\(convert 37 37 (qh (lj (iC g)) m c)).events I w #[]=#[]:=by
 have P:w.shape? g=lj (5,cs.size):=by simp[World.shape?,h]
 refine⟨?_,?_⟩
 ·simp[convert,go_sem,bar,markStringish,P,Result.andThen]
 ·simp[convert,go_sem,bar,markStringish,P]
def MQ{t}(m b)(D:w.1[c]?=lj (oh cs 5))(f:cs≠#[])(h:Jf cs)(O:g[i]?=lj o)(v:qy o (yielded g a.tmps)=km)(T:o.op=.convert 37 37 (.tmp t))(P:a.eval (.tmp t)=qh (lj (iC c)) m b)(F:∀B,Ax w B (· = c)->B.1[c]?=lj (oh cs 5 (cs.size,cs.size+1))->opsV I km Ec (Mz Y) d g l Q (a.put o.dst (qh (lj (iC c)) m b)) B):opsV I km Ec (Mz Y) d g (i::l) Q a w:=by
 refine Ad2 D f (λn=>h.map n) O v (by simp[Ei,Im (ltOf D)]) (λn W p k=>?_) (F _ ⟨iI,iI,iI,by rw[Fx];exact aC _,λj r z=>by rw[Ig w c cs D j,aM z]⟩ (by rw[Ig w c cs D,aL iI]));have e:=Hb p a (.tmp t) iI;rw[P]at e;have E:(Bw n a).eval (.tmp t)=qh (lj ⟨sh n c,0,jh⟩) m b:=by rw[e];simp[Ei]
 obtain⟨M,q⟩:=SP W (sh n c) m b cs k;unfold Fp execOp;rw[T];simp only[E];refine⟨?_,?_⟩
 ·simp[go_sem,M,Ei]
 ·simp[go_sem,q]
end
structure SA where
 svb:Nat
 D:Nat
 K:Nat
 tb:Nat
 mb:Nat
 wm:Nat
 sm:Nat
def SA.has(A:SA)(fa:hU)(i:Nat):Prop:=i=A.1∨i=A.K∨Fq fa=lj i∨i=A.tb∨i=A.5∨i=A.wm∨i=A.sm
structure Y2(valid Bs gN u)(A:SA)(last down num ns ks left L fa fc):Prop where
 V:GF Bs u A.1 A.D A.tb A.5 A.wm A.sm last down num ns
 tk:Rr num ns
 tn:TrN valid ns
 hw:Lf u A.wm ks
 hnd:ks.Nodup
 hgk:∀k∈ks,Tp k
 hD:u.1[A.D]?=lj (oh #[iB A.K] 60)
 st:St 58 100 u A.K left L fa fc
 l0:-1<=left
 l1:left<=9223372036854775807
 nw:¬Bs A.wm
 nsm:¬Bs A.sm
 nD:¬Bs A.D
 nK:¬Bs A.K
 nf:∀g,Fq fa=lj g->¬Bs g
 gv:gN<=A.1
 gt:gN<=A.tb
 gm:gN<=A.5
 gw:gN<=A.wm
 gs:gN<=A.sm
 gD:gN<=A.D
 gK:gN<=A.K
 gf:∀g,Fq fa=lj g->gN<=g
 wmb:A.wm≠A.5
 wsm:A.wm≠A.sm
 mbs:A.5≠A.sm
section
variable {J:gW} {A:SA} {last:Int} {b:Bool} {num:Int} {a:gZ} {left:Int}
def Y2.kx(S:Y2 h c y u A last b num r a left L fa m)(K:Ax u O X)(t:∀i,A.has fa i->¬X i)(W:¬X A.D):Y2 h c y O A last b num r a left L fa m:=
 ⟨S.V.kx K (t _ (r7 iI)) (t _ (kr (kr (kr (r7 iI))))) (t _ (kr (kr (kr (kr (r7 iI)))))),S.2,S.3,S.hw.keep (K.block _ (Bi.lt S.hw) (t _ (kr (kr (kr (kr (kr (r7 iI)))))))),S.5,S.6,K.get S.7 W,S.st.kx K (t _ (kr (r7 iI))) λg G=>t g (kr (kr (r7 G))),S.9,S.l1,S.nw,S.12,S.nD,S.nK,S.nf,S.gv,S.gt,S.gm,S.gw,S.gs,S.gD,S.gK,S.gf,S.wmb,S.wsm,S.mbs⟩
def Y2.kf(S:Y2 h c y u A last b num r a left L fa m)(K:Ax u O iH):=S.kx K (λ_ _=>id) id
def Y2.ge(S:Y2 h c y u A last b num r a left L fa m)(d:A.has fa i):y<=i:=by
 rcases d with rfl|rfl|d|rfl|rfl|rfl|rfl
 ·exact S.gv
 ·exact S.gK
 ·exact S.gf i d
 ·exact S.gt
 ·exact S.gm
 ·exact S.gw
 ·exact S.gs
def Kl{a size e}{X:gZ}(h:w.ownsRow a e size (qh v n s) n X)(G:Fq v=lj g):=Hz h ((Xq v _ _).trans G)
def Y2.obj(S:Y2 h c y u A last b num r a left L fa m){d}(g:Bi I 3 u A.sm d){i}(e:A.has fa i):∃o,u.1[i]?=lj o/\(∀f,o≠oh f 84)/\∀f,o≠oh f 5:=by
 rcases e with rfl|rfl|e|rfl|rfl|rfl|rfl
 ·exact⟨_,S.V.1,Ad,Ad⟩
 ·exact⟨_,S.st.blk,Ad,Ad⟩
 ·have ⟨cs,M⟩:=Kl S.st.row e
  grind
 ·exact⟨_,S.V.ht.blk,Ad,Ad⟩
 ·have ⟨X,x,D⟩:=S.V.ht.map.obj
  grind
 ·have ⟨X,x,D⟩:=Bi.obj S.hw
  grind
 ·have ⟨X,x,D⟩:=g.obj
  grind
def Y2.offS(S:Y2 h c y u A last b num r a left L fa m)(e:Bi I 3 u A.sm d)(H:Tn cu J c y u se)(f:A.has fa i):¬Hg se i:=by
 have ⟨o,C,g,T⟩:=S.obj e f;exact H.off C g T
def Y2.offD(S:Y2 h c y u A last b num r a left L fa m){se}(H:Tn cu J c y u se):=H.off S.7 Ad Ad
def Y2.lt(S:Y2 h c y u A last b num r a left L fa m){d}(e:Bi I 3 u A.sm d){i}(f:A.has fa i):i<iL u.1:=by
 have ⟨o,C,_⟩:=S.obj e f;exact ltOf C
def Y2.notD(S:Y2 h c y u A last b num r a left L fa m){d}(f:Bi I 3 u A.sm d):¬A.has fa A.D:=by
 rintro(e|e|e|e|e|e|e)
 ·exact Mm S.7 S.V.1 Ad e
 ·exact Mm S.7 S.st.blk Ad e
 ·have ⟨cs,M⟩:=Kl S.st.row e;rw[S.7]at M;cases M
 ·exact Mm S.7 S.V.ht.blk Ad e
 ·exact D3 S.V.ht.map S.7 e.symm
 ·exact D3 S.hw S.7 e.symm
 ·exact D3 f S.7 e.symm
def TG{kind}(E:kind=1∨kind=2∨kind=3):(TT kind).length<=3:=by
 rcases E with rfl|rfl|rfl<;>simp[TT]
end
structure ST where
 last:Int
 down:Bool
 num:Int
 ns:List (gU×Nd)
 ks:List uo
 left:Int
 L:List Fl
structure AS where
 k:Int
 ver:Int
 en:Bool
 lo:gT
def SI.abs(p:SI):AS:=⟨p.k,p.ver,p.en,p.lo⟩
def G9(l:List AS)(i:Nat)(b:gT):List AS:=l.modify i λa=>{ a with lo:=a.lo++b }
def Ol(l:List AS)(ls:gR):List AS:=List.zipWith (λa b=>{ a with lo:=a.lo++b }) l ls
structure Full(cu:Nat->uo×uo)(valid J Bs gN u A)(σ:ST)(fa fc se):Prop where
 srv:Y2 valid Bs gN u A σ.last σ.down σ.num σ.ns σ.ks σ.left σ.L fa fc
 ses:Tn cu J Bs gN u se
 map:Bi y7 3 u A.sm (E0 (se.map λp=>(p.k,p.b)))
structure E5(u u')(A:SA)(fa fa' se Fu):Prop where
 K:Ax u u' (λi=>A.has fa i∨Hg se i)
 own:∀g,Fq fa'=lj g->Fq fa=lj g∨iL u.1<=g
 sin:∀i,Hg Fu i->Hg se i∨iL u.1<=i
 kb:(Fu.map λp=>(p.k,p.b))=se.map λp=>(p.k,p.b)
section
variable {J:gW} {U:T} {A:SA} {o:ST} {d b:hU} {a c:List SI}
def Full.kx(a:Full cu h J Bs y u A o fa m se)(K:Ax u O X)(t:∀i,A.has fa i∨Hg se i->¬X i)(W:¬X A.D):Full cu h J Bs y O A o fa m se:=
 ⟨a.1.kx K (λi V=>t i (r7 V)) W,a.ses.kx K λi V=>t i (kr V),a.map.of_block (K.block _ a.map.lt (t _ (r7 (kr (kr (kr (kr (kr (kr iI)))))))))⟩
def Full.kf(a:Full cu h J Bs y u A o fa m se)(K:Ax u O iH):=a.kx K (λ_ _=>id) id
def Full.at(a:Full cu h J Bs y u A o fa m se)(d):=a.kf ((Ax.refl u _).at d)
def Full.lt(a:Full cu h J Bs y u A o fa m se){i}(V:A.has fa i∨Hg se i):=V.elim (a.1.lt a.map) a.ses.lt
def Full.ge(a:Full cu h J Bs y u A o fa m se)(V:A.has fa i∨Hg se i):=V.elim a.1.ge a.ses.ge
def E5.kf(K:Ax u O iH):E5 u O A fa fa se se:=⟨K.mono λ_ h=>h.elim,λ_ h=>r7 h,λ_ h=>r7 h,iI⟩
def E5.trans(h:E5 u O A fa d se a)(k:E5 O U A d b a c):E5 u U A fa b se c:=by
 refine⟨h.K.trans' k.K λi V Y=>?_,λg G=>?_,λi V=>?_,k.kb.trans h.kb⟩
 ·rcases V with V|V
  ·rcases V with V|V|V|V
   ·exact r7 (r7 V)
   ·exact r7 (kr (r7 V))
   ·rcases h.own i V with e|e
    ·exact r7 (kr (kr (r7 e)))
    ·omega
   ·exact r7 (kr (kr (kr V)))
  ·rcases h.sin i V with e|e
   ·exact kr e
   ·omega
 ·rcases k.own g G with e|e
  ·exact h.own g e
  ·exact kr (aE h.K.size e)
 ·rcases k.sin i V with e|e
  ·exact h.sin i e
  ·exact kr (aE h.K.size e)
def E5.at(h:E5 u O A fa d se a)(b):E5 u (O.at b) A fa d se a:=⟨h.K.at b,h.own,h.sin,h.kb⟩
def Agd{p b}(V:se[i]?=lj p):(se.set i { p with lo:=p.lo++b,ov:=S }).map SI.abs=G9 (se.map SI.abs) i b:=by
 apply bL;intro g;unfold G9;exact Dp5
def Aa3{N B}(h:Oh N se a B):a.map SI.abs=Ol (se.map SI.abs) B:=by
 apply bL;intro j;unfold Ol;rw[aS,List.getElem?_zipWith,aS];by_cases F:j<iK se
 ·obtain⟨l,K⟩:∃l,B[j]?=lj l:=⟨_,aH (by have:=h.2;omega)⟩;have ⟨S,C,_⟩:=h.one j se[j] l (aH F) K;rw[C,aH F,K];simp[SI.abs]
 ·have:=h.len
  grind
def Full.told(c:Full cu h J Bs y u A o fa m se)(r:y<=iL u.1){p}(V:se[i]?=lj p){b}(T:Told cu J Bs u O p.b p.k p.ver p.en p.6 p.lo b):∃a,Full cu h J Bs y O A o fa m a/\E5 u O A fa fa se a/\a.map SI.abs=G9 (se.map SI.abs) i b:=by
 obtain⟨S,C,d⟩:=c.ses.told V r T;have K:Ax u O (Hg se):=T.K.mono (λj l=>⟨i,p,V,l⟩);have B:((se.set i { p with lo:=p.lo++b,ov:=S }).map λp=>(p.k,p.b))=se.map λp=>(p.k,p.b):=by
  apply bL
  grind
 refine⟨_,⟨c.1.kx K (λj l=>c.1.offS c.map c.ses l) (c.1.offD c.ses),C,?_⟩,⟨K.mono λ_ c=>kr c,λ_ c=>r7 c,λj l=>?_,B⟩,Agd V⟩
 ·exact B8n
 ·obtain⟨g,q,E,f⟩:=l;by_cases H:i=g
  ·subst H;rw[bJ (aF.1 V).1]at E;obtain rfl:=aB E;rcases f with f|f
   ·exact r7 ⟨i,p,V,r7 f⟩
   ·rcases d j f with e|e
    ·exact r7 ⟨i,p,V,kr e⟩
    ·exact kr e
  ·rw[bE H]at E;exact r7 ⟨g,q,E,f⟩
end
def BX(kind:Nat)(m z:Int)(p:gU)(ns:List (gU×Nd)):gT:=
 if kind=1 then E m 4++E z 8++E 0 4++E p.size 4++p.data.toList
 else if kind=2 then E m 4++E z 8++E 0 4
 else E m 4++E z 8++E 0 4++E ((Fi ns p).getD Nd.zero).made 8++E ((Fi ns p).getD Nd.zero).changed 8++E ((Fi ns p).getD Nd.zero).version 4++E ((kids p ns).length:Nat) 4
def chR(kind:Nat)(m:Int)(p d n:gU)(eno:Int)(i:Nat)(σ:ST)(l:List AS)(σ':ST)(l':List AS):Prop:=
 (eno≠0/\σ'=σ/\l'=G9 l i (CG m σ.num eno)) ∨
 (eno=0/\∃b left' L',Aen σ.left σ.L (AK kind (σ.num+1) p d n) b left' L' /\
  (
   (b=sd/\σ' = { σ with down:=km,left:=left',L:=L' }/\l'=l) ∨
   (b=km/\σ' = { σ with num:=σ.num+1,ns:=P0 kind σ.ns p d n (σ.num+1),ks:=(Ct (σ.num+1) p (TT kind) (l.map AS.k) σ.ks).2,left:=left',L:=L' } /\
    l'=G9 (Ol l (Ct (σ.num+1) p (TT kind) (l.map AS.k) σ.ks).1) i (Zr (BX kind m (σ.num+1) p (P0 kind σ.ns p d n (σ.num+1)))))))
structure Af7(valid:gS)(kind)(p d n:gU)(ns):Prop where
 okd:Okd kind p ns
 pa:Lk p=km
 ps:p.size<=200
 pv:valid p=km
 sl:Eb p=km
 ds:d.size<=40
 nz:n.size<=200
 nv:valid n=km
 nm:(Hx p).size<=24/\valid (Hx p)=km
 par:(Ej p).size<=200/\valid (Ej p)=km
section
variable {G:Nat->R×R}
variable {J:gW}
def Ahi{c b}(h:w.1[svb]?=lj (oh (B8 D g M sm c b) 95))(l:∀k,¬J (.cell (iD svb k)))(o)(k:Nat)(O:o.op=.load 89 (.tmp k))(a:Act)(E:a.eval (.tmp k)=iB svb):Go.Pair.Yields I (execOp a.eval o) w (.agg #[iB D]) w/\∀e∈(execOp a.eval o).events I w #[],Ff J e:=by
 have c0:=Vi 0 h;unfold execOp;rw[O];simp only[E];refine⟨r7 ?_,λe N=>?_⟩
 ·go_simp
 ·simp[go_sem,c0]at N;subst N;exact Cl (l _)
def putC5(w:T)(b:Nat)(kind:Int)(p d n:gU)(v:Int):T:=((((w.setCell (iC b) (iE kind)).setCell (iD b 1) (pc p)).setCell (iD b 2) (pc d)).setCell (iD b 3) (pc n)).setCell (iD b 4) (iE v)
def IL(h:w.1[b]?=lj (oh (Du 0 iG iG iG 0) 152))(kind p d n v):Br w (putC5 w b kind p d n v) b (Du kind p d n v) 152:=
 (((((Br.refl h).set 0 (iE kind)).set 1 (pc p)).set 2 (pc d)).set 3 (pc n)).set 4 _
def Afm{kind p d n v}(h:w.1[b]?=lj (oh (Du 0 iG iG iG 0) 152))(l:∀k,¬J (.cell (iD b k)))(o)(O:o.op=.store 152 (.tmp 6) (.tmp 18))(a:Act)(f:a.eval (.tmp 6)=iB b)(B:a.eval (.tmp 18)=M3 kind p d n v):(∀M,Go.Pair.Yields I (execOp a.eval o) (w.at M) qp ((putC5 w b kind p d n v).at M))/\∀M,∀e∈(execOp a.eval o).events I (w.at M) #[],Ff J e:=by
 refine⟨λM=>kr ⟨?_,iI⟩,λM=>?_⟩
 all_goals
  have ⟨y,m,q,S,r⟩:=T0 (W:=w.at M) h iI;have ⟨Q,D,K,s,t,_⟩:=Gu (W:=w.at M) h;unfold execOp;rw[O];simp only[f,B]
 ·go_simp;unfold putC5;simp only[at_set]
 ·intro e N;simp[go_sem,y,m,q,S,r,Q,D,K,s,t,gog _ _ _ _ (Value.string _) lc2 iI,storedEv]at N;rcases N with rfl|rfl|rfl|rfl|rfl<;>exact Cl (l _)
def VW.putC5(W:VW J Bs w)(b kind p d n v):VW J Bs (putC5 w b kind p d n v):=((((W.set _ _ _).set _ _ _).set _ _ _).set _ _ _).set _ _ _
def FW(rb:Nat)(rc:gY)(cb:Nat)(cc:gY)(w:T):Prop:=w.1[rb]?=lj (oh rc 131)/\w.1[cb]?=lj (oh cc 152)
def FW.at{rb rc cb cc}(w d)(h:FW rb rc cb cc w):FW rb rc cb cc (w.at d):=h
def FW.kx{O X}(h:FW P j cb O w)(E:Ax w B X)(C:¬X P)(J:¬X cb):FW P j cb O B:=⟨E.get h.1 C,E.get h.2 J⟩
def St.sim{a}(h:St 58 100 w K a L v s)(C:B.1[K]?=w.1[K]?)(J:∀g,Fq v=lj g->B.1[g]?=w.1[g]?):St 58 100 B K a L v s:=
 ⟨C.trans h.blk,Wj h.row λg cs G M=>J g ((Xq v _ _).symm.trans G)⟩
def RH{num}(h:Ck w b t num r){p}(Z:(p,x)∈r):Fi r p=lj x:=by
 cases z:Fi r p with
 |none=>exact absurd iI (Hy z _ Z)
 |some y=>
  have C:=h.map.one (aZ.2 ⟨_,(F9 z),iI⟩) (aZ.2 ⟨_,Z,iI⟩);have ⟨m,a,S,n,Y,d⟩:=y
  simp_all
noncomputable def ch7:Code:=match f120.body with|some (.seq _ (.seq _ (.seq _ (.seq _ (.seq c _)))))=>c|_=>.skip
noncomputable def ch8:Code:=match f120.body with|some (.seq _ (.seq _ (.seq _ (.seq _ (.seq _ (.seq c _))))))=>c|_=>.skip
noncomputable def ch9:Code:=match f120.body with|some (.seq _ (.seq _ (.seq _ (.seq _ (.seq _ (.seq _ c))))))=>c|_=>.skip
noncomputable def LG(svb sb:Nat)(r:R)(rb cb:Nat)(s:hQ):Act:=⟨#[iB svb,iB sb,r,s 3,s 4,iB rb,iB cb,s 7,s 8,s 9,s 10,s 11,s 12,s 13,s 14,s 15,s 16,s 17,s 18,s 19,s 20,s 21,s 22,s 23,s 24,s 25,s 26,s 27,s 28,s 29,s 30,s 31,s 32,s 33,s 34,s 35,s 36,s 37,s 38,s 39,s 40,s 41,s 42,s 43,s 44,s 45,s 46,s 47,s 48,s 49,s 50,s 51,s 52,s 53,s 54,s 55,s 56,s 57,s 58,s 59,s 60,s 61,s 62,s 63],[]⟩
def Apc{z r}(h:a=LG z D r P cb (λj=>a.tmps.getD j qp)):∃s,a=LG z D r P cb s:=⟨_,h⟩
def Amn{svb sb r rb cb c}(h:a=LG svb sb r rb cb (λj=>a.tmps.getD j qp))(H:∀s,Hp I km J F 120 c Q (LG svb sb r rb cb s) w):Hp I km J F 120 c Q a w:=by
 rw[h];exact H _
def Ao1:Obj->Bool
 |oh _ t _=>t==95||t==58||t==100||t==108||t==84||t==5||t==60
 |.map _ _=>km
 |_=>sd
def Full.kind{A a}(F:Full G h J Bs y u A a v s se){I}(b:A.has v I∨Hg se I):∃o,u.1[I]?=lj o/\Ao1 o=km:=by
 have S:=F.1;rcases b with b|⟨k,q,d,N⟩
 ·rcases b with rfl|rfl|b|rfl|rfl|rfl|rfl
  ·exact⟨_,S.V.1,iI⟩
  ·exact⟨_,S.st.blk,iI⟩
  ·obtain⟨cs,c⟩:=Kl S.st.row b;exact⟨_,c,iI⟩
  ·exact⟨_,S.V.ht.blk,iI⟩
  ·obtain⟨X,x,D⟩:=S.V.ht.map.obj;exact⟨_,D,iI⟩
  ·obtain⟨X,x,D⟩:=Bi.obj S.hw;exact⟨_,D,iI⟩
  ·obtain⟨X,x,D⟩:=F.map.obj;exact⟨_,D,iI⟩
 ·obtain⟨S1,_⟩:=F.ses.one k q d;rcases N with rfl|N
  ·obtain⟨e,c,_⟩:=S1.row;exact⟨_,c,iI⟩
  ·obtain⟨_,⟨M,_⟩|⟨E,f,H,M,_,T,_⟩⟩:=S1.own
   ·rw[M]at N;cases N
   ·rw[M]at N;obtain rfl:E=I:=by simpa[Value.ownBlock] using N
    exact⟨_,T,iI⟩
def Full.off{A a}(F:Full G h J Bs y u A a v s se){j o}(l:u.1[j]?=lj o)(O:Ao1 o=sd):¬(A.has v j∨Hg se j):=λb=>by
 have ⟨I,C,c⟩:=F.kind b
 grind
def Ai6{r}(W:VW J Bs u)(Y:J (.obj r))(O:u.1[r]?=lj o)(M:o.isChan=sd):False:=by
 have ⟨I,C,a⟩:=W.3 r Y
 grind
def Abt(C:Cx z y J Bs u){A a X}(b:Full G h J Bs y u A a v X se)(D r kind)(E:kind=1∨kind=2∨kind=3)(p d n K)(Q:Af7 h kind p d n a.ns)(I:a.num+1<9223372036854775807)(rb cb)(o:u.1[cb]?=lj (oh (Du kind p d n K) 152))(V:¬Bs cb)(s):Hp y7 km J F 120 ch7 (λH a' c=>H=.normal/\(∃e,a'=LG A.1 D r rb cb e)/\VW J Bs c/\Full G h J Bs y c A { a with num:=a.num+1,ns:=P0 kind a.ns p d n (a.num+1) } v X se/\E5 u c A v v se se) (LG A.1 D r rb cb s) u:=by
 have S:=b.1;have t:∀j,(j=A.tb∨j=A.5)->A.has v j:=λj Z=>Z.elim (λZ=>kr (kr (kr (r7 Z)))) λZ=>kr (kr (kr (kr (r7 Z))));have ae:∀r,J (.obj r)->¬(r=A.tb∨r=A.5):=λr Y Z=>by
  rcases Z with Z|Z
  ·subst Z;exact Ai6 C.W Y S.V.ht.blk iI
  ·subst Z;obtain⟨es,cl,hb⟩:=S.V.ht.map.obj;exact Ai6 C.W Y hb iI
 have B:p.size<=1000:=by have:=Q.ps;omega
 unfold ch7 LG;simp only[f120];have N:=Jb.at (rb:=cb) (rc:=Du kind p d n K) (rt:=152) (svb:=A.1) (vc:=B8 A.D A.tb A.wm A.sm a.last a.down);have T:∀k(q:gk)(M:Nat),(uz7=uz7/\(∃e,k=LG A.1 D r rb cb e)/\VW J Bs q/\Full G h J Bs y q A { a with num:=a.num+1,ns:=P0 kind a.ns p d n (a.num+1) } v X se/\E5 u q A v v se se)->(uz7=uz7/\(∃e,k=LG A.1 D r rb cb e)/\VW J Bs (q.at M)/\Full G h J Bs y (q.at M) A { a with num:=a.num+1,ns:=P0 kind a.ns p d n (a.num+1) } v X se/\E5 u (q.at M) A v v se se):=λk q M⟨h1,h2,h3,h4,h5⟩=>⟨h1,h2,h3.at M,h4.at M,h5.at M⟩;refine Em (I:=Jb cb (Du kind p d n K) 152 A.1 (B8 A.D A.tb A.wm A.sm a.last a.down)) Ac λl=>?_;have w:Jb cb (Du kind p d n K) 152 A.1 (B8 A.D A.tb A.wm A.sm a.last a.down) (u.at l):=⟨o,S.V.1⟩;refine Eqy ?_;apply A9.tl 3 N T w (λq (W:Jb _ _ _ _ _ q)=>(cellOf (j:=1) W.2 iI:q.cell? (iD A.1 1)=lj (iB A.tb))) ((λa1 Z=>S.V.nv (C.W.2 _ Z)) 1);walk_nrm;refine A9.take (i:=4) (x:=(M3 kind p d n K)) N T iI Ab Ab Ab (Gj (S:=env Lv) Ac (B7 (fn:=0) Ab) (A6 _ _) ?_) w ?_
 ·exact λq W=>O1 W.1 (λa1 Z=>V (C.W.2 _ Z)) _ _ iI _ Ac
 walk_nrm;apply Ca (i:=5) (Gg (f:=93) (args:=#[iB A.tb,M3 kind p d n K]) Ae (C.W.at l) (X:=λi=>i=A.tb∨i=A.5) (R:=λ_ c=>Ck c A.tb A.5 (a.num+1) (P0 kind a.ns p d n (a.num+1))) ae λL' hs=>(Anr ((S.V.ht.at l).sim hs S.V.4 S.V.nm) (D3 S.V.ht.map S.V.ht.blk) S.2 I kind E p d n K B Q.1).mono λH c Z=>⟨⟨_,Z.1,Z.2.1⟩,Z.2.2⟩) Ab iI Ac iI Af;rintro x m⟨R,W6,L6,L,a7,P⟩;have U:Ax u m (λi=>i=A.tb∨i=A.5):=R.ofAt;have O:¬(A.1=A.tb∨A.1=A.5):=by rintro(Z|Z);exact Mm S.V.1 S.V.ht.blk Ad Z;exact D3 S.V.ht.map S.V.1 Z.symm
 have zf:∀g,Fq v=lj g->¬(g=A.tb∨g=A.5):=λg hg=>by
  obtain⟨cs,f⟩:=Kl S.st.row hg;rintro(Z|Z)
  ·exact Mm f S.V.ht.blk Ad Z
  ·exact D3 S.V.ht.map f Z.symm
 have a6:=w.kx R (λZ=>b.off o iI (r7 (t _ Z))) O;refine⟨a6,?_⟩;walk_nrm;have z1:=S.V.6;have a8:=S.2.num0;have V6:GF Bs m A.1 A.D A.tb A.5 A.wm A.sm a.last a.down (a.num+1) (P0 kind a.ns p d n (a.num+1)):=⟨U.get S.V.1 O,S.V.nv,(⟨(L _ S.V.4).symm.trans P.blk,P.map.of_block (L _ S.V.nm).symm⟩),S.V.4,S.V.nm,Aa,Aa⟩;have S6:Y2 h Bs y m A a.last a.down (a.num+1) (P0 kind a.ns p d n (a.num+1)) a.ks a.left a.L v X:=⟨V6,S.2.done I E B Q.sl Q.1,S.3.done E Q.6 Q.nm,S.hw.keep (U.block _ (Bi.lt S.hw) (by rintro(Z|Z);exact D3 S.hw S.V.ht.blk Z;exact S.wmb Z)),S.5,S.6,U.get S.7 (by rintro(Z|Z);exact Mm S.7 S.V.ht.blk Ad Z;exact D3 S.V.ht.map S.7 Z.symm),S.st.kx U (by rintro(Z|Z);exact Mm S.st.blk S.V.ht.blk Ad Z;exact D3 S.V.ht.map S.st.blk Z.symm) zf,S.9,S.l1,S.nw,S.12,S.nD,S.nK,S.nf,S.gv,S.gt,S.gm,S.gw,S.gs,S.gD,S.gK,S.gf,S.wmb,S.wsm,S.mbs⟩;exact A9.all Ab ⟨iI,Apc iI,W6,⟨S6,b.ses.kx U λj hj Z=>S.offS b.map b.ses (t j Z) hj,b.map.of_block (U.block _ b.map.lt (by rintro(Z|Z);exact D3 b.map S.V.ht.blk Z;exact S.mbs Z.symm))⟩,⟨U.mono λj Z=>r7 (t j Z),λ_ Z=>r7 Z,λ_ Z=>r7 Z,iI⟩⟩ _
def Qt{num q T}(f:∀b,(Mt q b).size<=200)(V:iK T<=3):∀{l} {ks:gZ} {i:Nat} {b},(Ct num q T l ks).1[i]?=lj b->iK b<=700
 |[],ks,i,b,h=>by simp[Ct]at h
 |k::l,ks,i,b,h=>by
  rw[Ct]at h;cases i with
  |zero=>
   simp at h;subst h;have C:=UJ (num:=num) (E:=(En k q T ks).1) λe N=>by obtain⟨x,_,rfl⟩:=Rk e N;exact f _
   have J:=Rj (s:=k) (q:=q) (T:=T) (ks:=ks);omega
  |succ i=>
   exact Qt f V h
def PX(U:It h z)(C:Cx z y J Bs u)(t:TlU y J u){A a}(c:Full G h J Bs y u A a v K se)(q:se≠[])(I:iK se<=8)(o:(se.map SI.k).Pairwise (·<=·))(L:∀p∈se,keyOf y7 3 (iE p.k)=lj (eg5 gh p.k)/\(eg5 gh p.k).wf=km)(N:∀p∈se,iK p.lo<=9000000000)(g r)(kind:Nat)(E:kind=1∨kind=2∨kind=3)(p d n e)(B:p.size<=200)(Q:∀j,(Mt p j).size<=200/\h (Mt p j)=km)(W:Eb p=km)(P cb)(T:u.1[cb]?=lj (oh (Du kind p d n e) 152))(Z:¬Bs cb)(s):Hp y7 km J F 120 ch8 (λY a' f=>Y=.normal/\(∃s',a'=LG A.1 g r P cb s')/\VW J Bs f/\∃w,Full G h J Bs y f A { a with ks:=(Ct a.num p (TT kind) (se.map SI.k) a.ks).2 } v K w/\E5 u f A v v se w/\Oh u.1.size se w (Ct a.num p (TT kind) (se.map SI.k) a.ks).1) (LG A.1 g r P cb s) u:=by
 have S:=c.1;have H:∀k,¬J (.cell (iD cb k)):=λk b=>Z (C.W.2 _ b);unfold ch8 LG;simp only[f120];refine Tfz ?_;apply Cy (S:=env Lv) (fn:=120) iI Ac (B7 Ab) (A6 _ _) (x:=M3 kind p d n e) (v':=u) (λM=>(O1 (J:=J) (w:=u.at M) T H _ _ iI _ Ac).1) (λM=>(O1 (J:=J) (w:=u.at M) T H _ _ iI _ Ac).2);walk_nrm;apply A2 (CY U C S.V se c.ses q I o L N c.map S.12 a.ks S.hw S.5 S.nw S.gw S.wmb S.wsm kind Aa (TT kind) (TG E) (t kind E) ((by rcases E with rfl|rfl|rfl<;>(intro x Z;simp[TT]at Z;rcases Z with rfl|rfl|rfl<;>decide)<;>(omega))) p d n e B Q W) iI Ac iI Af;rintro x R⟨rfl,a1,i,a6,D,a7,X⟩;walk_nrm;have a8:Bi y7 3 R A.sm (E0 (D.map λp=>(p.k,p.b))):=by
  rw[X.kb];exact c.map.of_block (i.block _ c.map.lt (λb=>b.elim (λb=>S.wsm b.symm) (S.offS c.map c.ses (kr (kr (kr (kr (kr (kr iI)))))))))
 have O:=Qv (num:=a.num) (q:=p) (T:=TT kind) (l:=se.map SI.k) (ks:=a.ks);have V:Y2 h Bs y R A a.last a.down a.num a.ns (Ct a.num p (TT kind) (se.map SI.k) a.ks).2 a.left a.L v K:=⟨(S.V.kx i (λb=>b.elim (λb=>D3 S.hw S.V.1 b.symm) (S.offS c.map c.ses (r7 iI))) (λb=>b.elim (λb=>D3 S.hw S.V.ht.blk b.symm) (S.offS c.map c.ses (kr (kr (kr (r7 iI)))))) (λb=>b.elim (λb=>S.wmb b.symm) (S.offS c.map c.ses (kr (kr (kr (kr (r7 iI)))))))),S.2,S.3,a6,S.5.sublist O,λk E=>S.6 k (O.subset E),(i.get S.7 (λb=>b.elim (λb=>D3 S.hw S.7 b.symm) (S.offD c.ses))),(S.st.kx i (λb=>b.elim (λb=>D3 S.hw S.st.blk b.symm) (S.offS c.map c.ses (kr (r7 iI)))) (λad m b=>b.elim (λb=>by obtain⟨cs,aa⟩:=Kl S.st.row m;exact D3 S.hw aa b.symm) (S.offS c.map c.ses (kr (kr (r7 m)))))),S.9,S.l1,S.nw,S.12,S.nD,S.nK,S.nf,S.gv,S.gt,S.gm,S.gw,S.gs,S.gD,S.gK,S.gf,S.wmb,S.wsm,S.mbs⟩;exact Au ⟨iI,Apc iI,a1,D,⟨V,a7,a8⟩,⟨i.mono λab b=>b.imp (λb=>kr (kr (kr (kr (kr (r7 b)))))) id,λ_ b=>r7 b,λab l=>X.sin l,X.kb⟩,X⟩
def WT(U:It h z)(C:Cx z y J Bs u){A c f}(M:Full G h J Bs y u A c v f se)(i r)(hi:se[i]?=lj r)(ad:r.ver=1)(O:iK r.lo<=10000000000)(kind:Nat)(hk:kind=1∨kind=2∨kind=3)(m)(aa:-2147483648<=m)(ab:m<=2147483647)(p d n K k)(af:Lk p=km)(ah:p.size<=200)(aj:h p=km)(H:kind=3->∃x,(p,x)∈c.ns)(rb cb)(hr:u.1[rb]?=lj (oh (A5 kind m p d n K k) 131))(nr:¬Bs rb)(hc:u.1[cb]?=lj (oh (Du kind p d n K) 152))(nc:¬Bs cb)(s):Hp y7 km J F 120 ch9 (λe a' R=>(e=.normal∨e=.ret)/\a'.defers = []/\VW J Bs R/\∃j,Full G h J Bs y R A c v f j/\E5 u R A v v se j/\j.map SI.abs=G9 (se.map SI.abs) i (Zr (BX kind m c.num p c.ns))) (LG A.1 r.b (J4 kind m p d n K k) rb cb s) u:=by
 have S:=M.1;obtain⟨S0,_,_⟩:=M.ses.one i r hi;have S1:Gi G J Bs u r.b r.k 1 r.en r.6 r.lo:=by rwa[←ad]
 have z1:=S.V.6;have z2:=S.V.z2;have Y:=Gm S1.own S.V.1 Ad;have Z:rb≠r.b:=λg=>nr (g▸S1.inb);have a6:cb≠r.b:=λg=>nc (g▸S1.inb);unfold ch9 LG;simp only[f120];have N:=FW.at (rb:=rb) (rc:=A5 kind m p d n K k) (cb:=cb) (cc:=Du kind p d n K);refine Em (I:=FW rb (A5 kind m p d n K k) cb (Du kind p d n K)) Ac λB=>?_;have w:FW rb (A5 kind m p d n K k) cb (Du kind p d n K) (u.at B):=⟨hr,hc⟩;have T:∀(a:Act)(q:gk)(o:Nat),((uz7=uz7∨uz7=Exit.ret)/\a.defers = []/\VW J Bs q/\∃j,Full G h J Bs y q A c v f j/\E5 u q A v v se j/\j.map SI.abs=G9 (se.map SI.abs) i (Zr (BX kind m c.num p c.ns)))->((uz7=uz7∨uz7=Exit.ret)/\a.defers = []/\VW J Bs (q.at o)/\∃j,Full G h J Bs y (q.at o) A c v f j/\E5 u (q.at o) A v v se j/\j.map SI.abs=G9 (se.map SI.abs) i (Zr (BX kind m c.num p c.ns))):=λa q o⟨h1,h2,h3,j,h4,h5,h6⟩=>⟨h1,h2,h3.at o,j,h4.at o,h5.at o,h6⟩;apply A9.tp 0 N T w;walk_nrm;apply A9.tp 1 N T w;walk_nrm;apply A9.tp 3 N T w;walk_nrm;refine A9.take (i:=2) (x:=(J4 kind m p d n K k)) N T iI Ab Ab Ab (Gj (S:=env Lv) Ac (B7 (fn:=0) Ab) (A6 _ _) ?_) w ?_
 ·exact λq W=>Jo W.1 (λak g=>nr (C.W.2 _ g)) _ _ iI _ Ac
 walk_nrm;refine A9.take (i:=4) (x:=(M3 kind p d n K)) N T iI Ab Ab Ab (Gj (S:=env Lv) Ac (B7 (fn:=0) Ab) (A6 _ _) ?_) w ?_
 ·exact λq W=>O1 W.2 (λak g=>nc (C.W.2 _ g)) _ _ iI _ Ac
 walk_nrm;have a7:∀(t Q:gk)(b:gT),Ax u t iH->Told G J Bs t Q r.b r.k 1 r.en r.6 r.lo b->∃j,Full G h J Bs y Q A c v f j/\E5 u Q A v v se j/\j.map SI.abs=G9 (se.map SI.abs) i b:=λt Q b X E=>by
  obtain⟨j,F',G',ha⟩:=(M.kf X).told (aE C.sz X.size) hi (ad▸E);exact⟨j,F',(E5.kf X).trans G',ha⟩
 rcases hk with rfl|rfl|rfl
 ·apply Ca (i:=5) (YN U (C.at B) (S.V.at B) S.2 p d n K) Ab iI Ac iI D2;rintro lv t⟨l,I,a8⟩;have D:=w.kx l id id;refine⟨D,?_⟩;walk_nrm;have X:Ax u t iH:=((Ax.refl u _).at B).trans l;have C8:=C.kx X I λ_ g=>g.elim;have a1:=puts_path h (m:=m) (z:=c.num) (e:=0) (p:=p) aa ab z1 z2 Ae Ae ah aj;have ai:iK p.data.toList=p.size:=iI;apply Ca (i:=6) (Om U C8 (S1.kx X id λ_ _=>id) O (S.V.kx X id id id) Y 1 Ae m p d n K k _ (λae L=>L.14) [txt p] lv Ad Ad a8 _ Ac _ a1 Ap HA) Ab iI Ac iI D2;exact Uxr
 ·apply Ca (i:=5) (YO U (C.at B) (S.V.at B) S.2 p d n K) Ab iI Ac iI D2;rintro lv t⟨l,I,rfl⟩;have D:=w.kx l id id;refine⟨D,?_⟩;walk_nrm;have X:Ax u t iH:=((Ax.refl u _).at B).trans l;have C8:=C.kx X I λ_ g=>g.elim;have a1:=puts_error h (m:=m) (z:=c.num) (e:=0) aa ab z1 z2 Ae Ae;apply Ca (i:=6) (Om U C8 (S1.kx X id λ_ _=>id) O (S.V.kx X id id id) Y 2 Ae m p d n K k _ (λae L=>L.15) [] (qh jh 0 0) (λ_=>rfl) Ad (.nil _ _) _ parse_error _ a1 Al Al) Ab iI Ac iI D2;exact Uxr
 ·obtain⟨V,H⟩:=H iI;apply Ca (i:=5) (YP U (C.at B) (S.V.at B) S.2 p d n K af Aa V H) Ab iI Ac iI D2;rintro lv t⟨l,I,a8⟩;have D:=w.kx l id id;refine⟨D,?_⟩;walk_nrm;have X:Ax u t iH:=((Ax.refl u _).at B).trans l;obtain⟨q1,q2,q3,q4,q5,q6⟩:=S.2.node _ H;simp only at q1 q2 q3 q4 q5 q6;have hl:=S.2.len;have al:=Z1 (path:=p) (ns:=c.ns);apply Ca (i:=6) (Om U (C.kx X I λ_ g=>g.elim) (S1.kx X id λ_ _=>id) O (S.V.kx X id id id) Y 3 Ae m p d n K k _ (λae L=>L.16) [.mk 0 iG [Orch.num V.made,Orch.num V.changed,Orch.num V.version,Orch.num ((kids p c.ns).length:Nat)]] lv Ad Ad a8 _ parse_state _ (puts_state h (m:=m) (z:=c.num) (e:=0) (a:=V.made) (b:=V.changed) (c:=V.version) (d:=((kids p c.ns).length:Nat)) aa ab z1 z2 Ae Ae Aa Aa Aa Aa Aa Aa Aa Aa) Al Al) Ab iI Ac iI D2;rintro P Q⟨rfl,E⟩;refine⟨D.kx E.K (λg=>g.elim Z (Gm (S1.kx X id λ_ _=>id).own D.1 Ad)) (λg=>g.elim a6 (Gm (S1.kx X id λ_ _=>id).own D.2 Ad)),?_⟩;walk_nrm;have hb:BX 3 m c.num p c.ns=be m 4++be c.num 8++be 0 4++be V.made 8++be V.changed 8++be V.version 4++be ((kids p c.ns).length:Nat) 4:=by
   rw[BX,aM Ae,aM Ae,RH S.V.ht H]
   rfl
  exact A9.all Ab ⟨r7 iI,iI,E.W,by rw[hb];exact a7 t Q _ X E⟩ _
end
section
variable {G:Nat->R×R}
variable {J:gW}
def Ago(az:It h z)(C:Cx z y J c u)(TU:TlU y J u){A a b}(aj:Full G h J c y u A a b s se)(cc:a.down=sd)(h8:iK se<=8)(dc:(se.map SI.k).Pairwise (·<=·))(dd:∀p∈se,keyOf y7 3 (iE p.k)=lj (eg5 gh p.k)/\(eg5 gh p.k).wf=km)(bq:∀p∈se,iK p.lo<=9000000000)(i p0)(hi:se[i]?=lj p0)(de:p0.ver=1)(kind:Nat)(hk:kind=1∨kind=2∨kind=3)(B)(b5:-2147483648<=B)(b6:B<=2147483647)(p d n K k I)(bd:-2147483648<=I)(au:I<=2147483647)(HC:∀L,Ck L A.tb A.5 a.num a.ns->X1 z y L->Calls y7 92 #[iB A.tb,M3 kind p d n K] L λba w'=>ba=k8 (iE I)/\iF L w')(br:I=0->Af7 h kind p d n a.ns)(hL:iK a.L<=1000000)(dg:∀f∈a.L,f.d.size<=1000000000000)(dh:a.num+1<9223372036854775807):Bg y7 km J F 120 #[iB A.1,iB p0.b,J4 kind B p d n K k] u λx u'=>x=js #[]/\VW J c u'/\∃σ' D af Fu,Full G h J c y u' A σ' D af Fu/\E5 u u' A b D se Fu/\chR kind B p d n I i a (se.map SI.abs) σ' (Fu.map SI.abs):=by
 have S:=aj.1;have hS:=aj.ses;rw[cc]at S;have hm:=aj.map;have du:=S.2.num0;have ai:∀N,¬J (.cell (iD A.1 N)):=λN Z=>S.V.nv (C.W.2 _ Z);obtain⟨S0,_,_⟩:=hS.one i p0 hi;have cd:p0∈se:=bA hi;have hu:=C.sz;refine Bl func120 Ac iI (R:=λ_=>js #[]) (λ_ _=>ksi Ac _ _ _) (λ_ _=>jil Ac _ _) ?_;simp only[ntmps120,na,Nat.reduceAdd,Nat.reduceSub];refine Wqw ?_;refine Dk (A5 kind B p d n K k) 131 ?_;walk_nrm;refine Ro8 ?_;have ak:=Ba u (A5 kind B p d n K k) 131 iH;have e:=C.W.alloc (A5 kind B p d n K k) 131;have a7:(u.alloc (oh (A5 kind B p d n K k) 131)).1[iL u.1]?=lj (oh (A5 kind B p d n K k) 131):=iw _ _;generalize u.alloc (oh (A5 kind B p d n K k) 131)=E at ak e a7⊢;refine Ilg λaa U=>?_;refine Wqw ?_;refine V2g ?_;refine Bp (cellOf (j:=0) a7 iI) (U 0) ?_;walk_nrm;refine V2g ?_;refine Bp (cellOf (j:=2) a7 iI) (U 2) ?_;walk_nrm;refine V2g ?_;refine Bp (cellOf (j:=3) a7 iI) (U 3) ?_;walk_nrm;refine V2g ?_;refine Bp (cellOf (j:=4) a7 iI) (U 4) ?_;walk_nrm;refine V2g ?_;refine Bp (cellOf (j:=5) a7 iI) (U 5) ?_;walk_nrm;refine Cd (M3 kind p d n K) ?_;walk_nrm;refine Dk (Du 0 iG iG iG 0) 152 ?_;walk_nrm;have W:=Ba E (Du 0 iG iG iG 0) 152 iH;have ay:=e.alloc (Du 0 iG iG iG 0) 152;have an:(E.alloc (oh (Du 0 iG iG iG 0) 152)).1[iL E.1]?=lj (oh (Du 0 iG iG iG 0) 152):=iw _ _;generalize E.alloc (oh (Du 0 iG iG iG 0) 152)=ao at W ay an⊢;have aw:¬c E.1.size:=λZ=>by have:=e.lt Z;omega
 have M:∀N,¬J (.cell (iD E.1.size N)):=λN Z=>aw (C.W.2 _ Z);have a6:=Afm (J:=J) (kind:=kind) (p:=p) (d:=d) (n:=n) (v:=K) an M;have X:=IL an kind p d n K;refine Cy (S:=env Lv) (fn:=120) iI Ac (B7 Ab) (A6 _ _) (x:=qp) (v':=putC5 ao E.1.size kind p d n K) (a6 _ iI _ Ac Ac).1 (a6 _ iI _ Ac Ac).2 ?_;walk_nrm;have a8:VW J c (putC5 ao E.1.size kind p d n K):=ay.putC5 _ _ _ _ _ _;generalize putC5 ao E.1.size kind p d n K=u2 at X a8⊢;have cf:Ax E u2 iH:=⟨X.grown.os.trans W.os,X.grown.tape.trans W.tape,X.grown.output.trans W.output,aE W.size X.grown.size,λN hk _=>(X.grown.block N (aA hk W.size) (λZ=>by cases Z;omega)).trans (W.block N hk id)⟩;have O:=ak.trans cf;have S2:=S.kf O;refine Ro8 ?_;refine M8j ?_;have t:=Jb.at (rb:=iL E.1) (rc:=Du kind p d n K) (rt:=152) (svb:=A.1) (vc:=B8 A.D A.tb A.wm A.sm a.last sd);refine Em (I:=Jb E.1.size (Du kind p d n K) 152 A.1 (B8 A.D A.tb A.wm A.sm a.last sd)) Ac λd2=>?_;have T:Jb E.1.size (Du kind p d n K) 152 A.1 (B8 A.D A.tb A.wm A.sm a.last sd) (u2.at d2):=⟨X.blk,S2.V.1⟩;refine A9.tp 0 t Am7 T ?_;walk_nrm;refine A9.tp 1 t Am7 T ?_;walk_nrm;refine A9.tp 2 t Am7 T ?_;walk_nrm;refine A9.tl 3 t Am7 T (λw (hw:Jb _ _ _ _ _ w)=>(cellOf (j:=1) hw.2 iI:w.cell? (iD A.1 1)=lj (iB A.tb))) (ai 1) ?_;walk_nrm;refine A9.take (i:=4) (x:=(M3 kind p d n K)) t Am7 iI Ab Ab Ab (Gj (S:=env Lv) Ac (B7 (fn:=0) Ab) (A6 _ _) ?_) T ?_
 ·exact λw hw=>O1 hw.1 M _ _ iI _ Ac
 walk_nrm;refine Ca (i:=5) (Gg (f:=92) (args:=#[iB A.tb,M3 kind p d n K]) Ae (a8.at d2) (X:=λ_=>False) (R:=λx _=>x=iE I) (λ_ _ Z=>Z) λR hs=>(HC R ((S2.V.ht.at d2).sim hs S.V.4 S.V.nm) (((C.kx O a8 λ_ Z=>Z.elim).at d2).glob hs)).mono λba w' Z=>⟨⟨_,Z.1,iI⟩,Bo Z.2⟩) Ab iI Ac iI Af ?_;rintro x q⟨cg,ae,L3,dv,dw,rfl⟩;have bu:=T.kx cg id id;refine⟨bu,?_⟩;walk_nrm;refine A9.tp 6 t Am7 bu ?_;walk_nrm;refine Gql ?_;have bw:Ax u2 q iH:=((Ax.refl u2 _).at d2).trans cg;have bb:=O.trans bw;have bf:=C.kx bb ae λ_ Z=>Z.elim;have S3:=S.kf bb;have ar:=bw.get (cf.get a7 id) id;have b7:=S0.kx bb id λ_ _=>id;have dx:-9223372036854775808<=a.num:=Aa;have dy:a.num<=9223372036854775807:=Aa;refine Wqw ?_;refine V2g ?_;by_cases hc:I=0
 case neg=>
  refine Mdt ?_;refine C7u ?_;refine Wqw ?_;refine Wad ?_;refine Cy (S:=env Lv) (fn:=120) iI Ac (B7 Ab) (A6 _ _) (x:=J4 kind B p d n K k) (v':=q) (λd'=>(Jo (J:=J) (w:=q.at d') ar U _ _ iI _ Ac).1) (λd'=>(Jo (J:=J) (w:=q.at d') ar U _ _ iI _ Ac).2) ?_;walk_nrm;refine V2g ?_;refine A2 (VI az bf b7 (by have:=bq p0 cd;omega) S3.V (Gm b7.own S3.V.1 Ad) kind B p d n K k I b5 b6 bd au) iI Ac iI Af ?_;rintro P ab⟨rfl,ad⟩;walk_nrm;refine Ro8 ?_;obtain⟨Fu,F',G',ha⟩:=(aj.kf bb).told bf.sz hi ad;exact Dt ⟨kr iI,iI,trivial,ad.W,_,_,_,Fu,F',(E5.kf bb).trans G',r7 ⟨hc,iI,ha⟩⟩
 case pos=>
 subst hc;have ok:=br iI;refine Xol ?_;refine Rgq ?_;refine K5o ?_;refine M8j ?_;have dz:IntKind.i64.wrap (a.num+1)=a.num+1:=by rw[IntKind.wrap_i64];omega
 refine Em (I:=Jb E.1.size (Du kind p d n K) 152 A.1 (B8 A.D A.tb A.wm A.sm a.last sd)) Ac λQ=>?_;have al:Jb E.1.size (Du kind p d n K) 152 A.1 (B8 A.D A.tb A.wm A.sm a.last sd) (q.at Q):=bu;refine A9.tp 0 t Am7 al ?_;walk_nrm;refine A9.tp 1 t Am7 al ?_;walk_nrm;refine A9.tp 2 t Am7 al ?_;walk_nrm;refine A9.tp 4 t Am7 al ?_;walk_nrm;refine A9.tp 5 t Am7 al ?_;walk_nrm;refine A9.tp 6 t Am7 al ?_;walk_nrm;refine A9.take (i:=3) (x:=(.agg #[iB A.D])) t Am7 iI Ab Ab Ab (Gj (S:=env Lv) Ac (B7 (fn:=0) Ab) (A6 _ _) ?_) al ?_
 ·exact λw hw=>Ahi hw.2 ai _ _ iI _ Ac
 walk_nrm;refine A9.tl 7 t Am7 al (λw (hw:Jb _ _ _ _ _ w)=>(cellOf (j:=1) hw.2 iI:w.cell? (iD A.1 1)=lj (iB A.tb))) (ai 1) ?_;walk_nrm;refine A9.take (i:=10) (x:=(M3 kind p d n K)) t Am7 iI Ab Ab Ab (Gj (S:=env Lv) Ac (B7 (fn:=0) Ab) (A6 _ _) ?_) al ?_
 ·exact λw hw=>O1 hw.1 M _ _ iI _ Ac
 walk_nrm;refine Ca (i:=8) (Gg (f:=42) (args:=#[iB A.tb]) Ae (ae.at Q) (X:=λ_=>False) (R:=λx _=>x=iE a.num) (λ_ _ Z=>Z) λR hs=>(Kb R A.tb A.5 a.num a.ns ((S3.V.ht.at Q).sim hs S.V.4 S.V.nm)).mono λba w' Z=>⟨⟨_,Z.1,iI⟩,by rw[Z.2];exact Ax.refl _ _⟩) Ab iI Ac iI Af ?_;rintro x ab⟨cj,W4,L4,e0,e1,rfl⟩;have bx:=al.kx cj id id;refine⟨bx,?_⟩;walk_nrm;have bz:Ax q ab iH:=((Ax.refl q _).at Q).trans cj;have bk:=bb.trans bz;have C4:=C.kx bk W4 λ_ Z=>Z.elim;have S4:=S.kf bk;refine A9.take (i:=9) (x:=iE (a.num+1)) t Am7 iI Ab Ab Ab (JM (S:=env Lv) Ac (B7 (fn:=0) Ab) (A6 _ _) (λw=>by walk_nrm;go_simp) (λw=>by walk_nrm;go_simp)) bx ?_;walk_nrm;have di:∀r,J (.obj r)->¬(r=A.K∨Fq b=lj r):=λr hr Z=>by
  obtain⟨b8,ho,ck⟩:=W4.3 r hr;rcases Z with Z|Z
  ·rw[Z,S4.st.blk]at ho;cases ho;cases ck
  ·obtain⟨cs,bg⟩:=Kl S4.st.row Z;rw[bg]at ho;cases ho;cases ck
 refine Ca (i:=11) (Gg (f:=160) (args:=#[.agg #[iB A.D],iE (a.num+1),M3 kind p d n K]) Ae W4 (X:=λi=>i=A.K∨Fq b=lj i) (R:=λP w'=>∃ah V R,P=gd ah/\Aen a.left a.L (AK kind (a.num+1) p d n) ah V R/\∃D af,St 58 100 w' A.K V R D af/\∀g,Fq D=lj g->Fq b=lj g∨iL ab.1<=g) di λR hs=>?_) Ab iI Ac iI Af ?_
 ·have Gv:=C4.glob hs;refine(ZA az R Gv.tabs (λe2 hW=>Gv.table.below hW Gv.table.pos) A.D A.K a.left a.L b s ((hs.same S.nD).trans S4.7) (S4.st.sim (hs.same S.nK) λg o=>hs.same (S.nf g o)) S.9 S.l1 hL dg (a.num+1) kind p d n K Aa Aa Aa Aa ok.ps ok.pv (by have:=ok.6;omega) ok.7 ok.nv).mono ?_;rintro ba w'⟨ah,V,dj,rfl,hP,D,af,dk,hG⟩;exact⟨⟨_,iI,ah,V,dj,iI,hP,D,af,dk,λg o=>(hG.own g o).imp id λZ=>by rwa[hs.size]at Z⟩,hG.k⟩
 rintro x v⟨K5,W5,L5,cm,e3,ah,V,R,rfl,c6,D,af,cn,cp⟩;have ag:∀g,Fq D=lj g->¬c g/\y<=g:=λg o=>by
  rcases cp g o with Z|Z
  ·exact⟨S.nf g Z,S.gf g Z⟩
  ·have:=C4.sz;exact⟨λhB=>by have:=W4.lt hB;omega,Aa⟩
 have bh:St 58 100 v A.K V R D af:=cn.sim (cm _ S.nK).symm λg o=>(cm g (ag g o).1).symm;have e4:=ak.size;have e5:=bk.size;have lc:iL E.1<iL u2.1:=ltOf X.blk;have e6:iL E.1<iL ab.1:=by have:=bw.size;have:=bz.size;omega
 have cq:∀{j},(j=A.K∨Fq b=lj j)->j<iL u.1:=λZ=>aj.1.lt aj.map (Z.elim (λZ=>kr (r7 Z)) λZ=>kr (kr (r7 Z)));have b9:∀{j:Nat} {b8:Obj},u.1[j]?=lj b8->(∀bj,b8≠oh bj 58)->(∀bj,b8≠oh bj 100)->¬(j=A.K∨Fq b=lj j):=λhj h1 h2 Z=>by
  rcases Z with Z|Z
  ·subst Z;rw[S.st.blk]at hj;exact h1 _ (aB hj).symm
  ·obtain⟨cs,bg⟩:=Kl S.st.row Z;rw[bg]at hj;exact h2 _ (aB hj).symm
 have xv:=b9 S.V.1 Ad Ad;have xt:=b9 S.V.ht.blk Ad Ad;have xD:=b9 S.7 Ad Ad;have xm:¬(A.5=A.K∨Fq b=lj A.5):=by obtain⟨es,cl,hb⟩:=S.V.ht.map.obj;exact b9 hb Ad Ad
 have xw:¬(A.wm=A.K∨Fq b=lj A.wm):=by obtain⟨es,cl,hb⟩:=Bi.obj S.hw;exact b9 hb Ad Ad
 have xs:¬(A.sm=A.K∨Fq b=lj A.sm):=by obtain⟨es,cl,hb⟩:=hm.obj;exact b9 hb Ad Ad
 have cr:∀j,Hg se j->¬(j=A.K∨Fq b=lj j):=λj hj Z=>aj.1.offS aj.map aj.ses (Z.elim (λZ=>kr (r7 Z)) λZ=>kr (kr (r7 Z))) hj;have ax:Ax u v (λi=>i=A.K∨Fq b=lj i):=(bk.mono λ_ Z=>Z.elim).trans K5;have bm:=bx.kx K5 (λZ=>by have:=cq Z;omega) xv;refine⟨bm,?_⟩;walk_nrm;have bn:-1<=V/\V<=9223372036854775807:=by
  have h1:=S.l1;have d1:=QB S.9;have d2:=QB d1.1;rcases c6 with⟨_,_,Z,_⟩|⟨_,_,_,⟨_,_,Z,_⟩|⟨_,_,Z,_⟩⟩<;>rw[Z]<;>constructor<;>omega
 have V5:=S.V.kx ax xv xt xm;have S5:Y2 h c y v A a.last sd a.num a.ns a.ks V R D af:=⟨V5,S.2,S.3,S.hw.keep (ax.block _ (Bi.lt S.hw) xw),S.5,S.6,ax.get S.7 xD,bh,bn.1,bn.2,S.nw,S.12,S.nD,S.nK,λg o=>(ag g o).1,S.gv,S.gt,S.gm,S.gw,S.gs,S.gD,S.gK,λg o=>(ag g o).2,S.wmb,S.wsm,S.mbs⟩;have bo:Tn G J c y v se:=hS.kx ax cr;have bc:Bi y7 3 v A.sm (E0 (se.map λp=>(p.k,p.b))):=hm.of_block (ax.block _ hm.lt xs);have G5:E5 u v A b D se se:=⟨ax.mono λj Z=>r7 (Z.elim (λZ=>kr (r7 Z)) λZ=>kr (kr (r7 Z))),λg o=>(cp g o).imp id λZ=>Aa,λ_ Z=>r7 Z,iI⟩;have C5:=C.kx ax W5 λj Z=>aj.1.ge (Z.elim (λZ=>kr (r7 Z)) λZ=>kr (kr (r7 Z)));cases ah with
 |false=>
  refine A9.tp 12 t Am7 bm ?_;walk_nrm;refine Gql ?_;refine N5y ?_;refine Wqw ?_;refine Trb ?_;refine Cy (S:=env Lv) iI Ac (B7 Ab) (A6 _ _) (x:=qp) (v':=(v.setCell (iD A.1 5) (gd km))) (λm=>kr ⟨by have H:=(show ur (World.at v m) _=_ from(cellOf (j:=5) V5.1 iI));have a1:=(show tv (World.at v m) _=sd from(Dm (j:=5) V5.1));walk_nrm;go_simp;first|done|rfl,rfl⟩) (λm=>by have H:=(show ur (World.at v m) _=_ from(cellOf (j:=5) V5.1 iI));have a1:=(show tv (World.at v m) _=sd from(Dm (j:=5) V5.1));walk_nrm;intro av Y;simp[go_sem,H,a1,gog _ _ _ _ (Value.slice _ _ _) lc2 iI,gog _ _ _ _ (gd _) lc2 iI,storedEv]at Y;subst Y;exact Cl (ai 5)) ?_;walk_nrm;refine Ro8 ?_;have K6:=Et v A.1 5 (gd km);have W6:=W5.set A.1 5 (gd km);have cu:(v.setCell (iD A.1 5) (gd km)).1[A.1]?=lj (oh (B8 A.D A.tb A.wm A.sm a.last km) 95):=by rw[heap_setCell,aL iI,V5.1];rfl
  generalize v.setCell (iD A.1 5) (gd km)=u6 at K6 W6 cu⊢;have P:∀{j:Nat} {b8:Obj},v.1[j]?=lj b8->(∀bj,b8≠oh bj 95)->¬j=A.svb:=λhj h1 Z=>by
   subst Z;rw[V5.1]at hj;exact h1 _ (aB hj).symm
  have F6:Full G h J c y u6 A { a with down:=km,left:=V,L:=R } D af se:=⟨(⟨⟨cu,S.V.nv,V5.ht.kx K6 (P V5.ht.blk Ad) (by obtain⟨es,cl,hb⟩:=V5.ht.map.obj;exact P hb Ad),S.V.4,S.V.nm,S.V.6,S.V.z2⟩,S.2,S.3,S5.hw.keep (K6.block _ (Bi.lt S5.hw) (by obtain⟨es,cl,hb⟩:=Bi.obj S5.hw;exact P hb Ad)),S.5,S.6,K6.get S5.7 (P S5.7 Ad),bh.kx K6 (P bh.blk Ad) (λg o=>by obtain⟨cs,bg⟩:=Kl bh.row o;exact P bg Ad),bn.1,bn.2,S.nw,S.12,S.nD,S.nK,λg o=>(ag g o).1,S.gv,S.gt,S.gm,S.gw,S.gs,S.gD,S.gK,λg o=>(ag g o).2,S.wmb,S.wsm,S.mbs⟩),bo.kx K6 λj hj Z=>by subst Z;exact S5.offS bc bo (r7 iI) hj,bc.of_block (K6.block _ bc.lt (by obtain⟨es,cl,hb⟩:=bc.obj;exact P hb Ad))⟩;refine Dt ⟨kr iI,iI,trivial,W6,_,D,af,se,F6,G5.trans ⟨K6.mono λj Z=>r7 (r7 Z),λ_ Z=>r7 Z,λ_ Z=>r7 Z,iI⟩,kr ⟨iI,sd,V,R,c6,r7 ⟨iI,iI,iI⟩⟩⟩
 |true=>
 refine A9.tp 12 t Am7 bm ?_;walk_nrm;refine Gql ?_;refine Ve5 ?_;have aq:Full G h J c y v A { a with left:=V,L:=R } D af se:=⟨by show Y2 h c y v A a.last a.down a.num a.ns a.ks V R D af;rwa[cc],bo,bc⟩;have cw:v.1[iL u.1]?=lj (oh (A5 kind B p d n K k) 131):=K5.get (bz.get ar id) (λZ=>by have:=cq Z;omega);have c7:=bm.1;clear S5 bo bc V5 S4 S3 S2 cn bh cr b9 xv xt xD xm xw xs;refine Aw ?_;refine Amn (svb:=A.1) (sb:=p0.b) (r:=J4 kind B p d n K k) (rb:=iL u.1) (cb:=iL E.1) iI λs1=>?_;refine Da (Abt C5 aq p0.b (J4 kind B p d n K k) kind hk p d n K ok dh u.1.size E.1.size c7 aw s1) ?_;rintro e7 e8 u6⟨rfl,⟨s2,rfl⟩,W6,F6,G6⟩;simp only[A1];have C6:=C5.kx G6.K W6 λj Z=>aq.ge Z;have cx:u6.1[iL u.1]?=lj (oh (A5 kind B p d n K k) 131):=G6.K.get cw (aq.off cw iI);have c8:u6.1[iL E.1]?=lj (oh (Du kind p d n K) 152):=G6.K.get c7 (aq.off c7 iI);have cy:∀ah,(Mt p ah).size<=200/\h (Mt p ah)=km:=λah=>by
  cases ah
  ·exact⟨ok.ps,ok.pv⟩
  ·exact ok.par
 refine Aw ?_;refine Da (PX az C6 ((TU.kx ax C.g8 C.sz λj Z=>aj.1.ge (Z.elim (λZ=>kr (r7 Z)) λZ=>kr (kr (r7 Z)))).kx G6.K C.g8 C5.sz λj Z=>aq.ge Z) F6 (λZ=>by rw[Z]at hi;simp at hi) h8 dc dd bq p0.b (J4 kind B p d n K k) kind hk p d n K ok.ps cy ok.sl u.1.size E.1.size c8 aw s2) ?_;rintro e9 a2 u7⟨rfl,⟨s3,rfl⟩,W7,ec,F7,G7,c9⟩;simp only[A1];have il:i<iK se:=(aF.1 hi).1;obtain⟨l7,cz⟩:∃l,(Ct (a.num+1) p (TT kind) (se.map SI.k) a.ks).1[i]?=lj l:=⟨_,aH (by have:=c9.2;simp only at this;omega)⟩;obtain⟨ed,dm,_⟩:=c9.one i p0 l7 hi cz;have ee:=Qt (λah=>(cy ah).1) (TG hk) cz;have dp:kind=3->∃x,(p,x)∈P0 kind a.ns p d n (a.num+1):=λZ=>by
  subst Z;obtain⟨x,hx⟩:=ok.1;exact⟨_,Agx hx⟩
 refine Da (WT az (C6.kx G7.K W7 λj Z=>F6.ge Z) F7 i _ dm de (by have:=bq p0 cd;rw[aK];omega) kind hk B b5 b6 p d n K k ok.pa ok.ps ok.pv dp u.1.size E.1.size (G7.K.get cx (F6.off cx iI)) aa (G7.K.get c8 (F6.off c8 iI)) aw s3) ?_;rintro ef a3 u8⟨he,dq,W8,dr,F8,G8,dt⟩;refine⟨he,dq,trivial,W8,_,D,af,dr,F8,((G5.trans G6).trans G7).trans G8,kr ⟨iI,km,V,R,c6,kr ⟨iI,?_,?_⟩⟩⟩
 ·rw[cW]
  rfl
 ·rw[dt,Aa3 c9,cW]
  rfl
end
def Hi(kind:Nat)(ns:List (gU×Nd))(p d:gU)(ver:Int):Int:=
 if kind=1 then(if Lk p=km then(if d.size<=40 then BY ns p else 11) else 8)
 else if kind=2 then(if p=⟨#[47]⟩ then 13 else if Lk p=km then X5 ns p ver else 8)
 else(if Lk p=km then(if d.size<=40 then BZ ns p ver else 11) else 8)
def Gt(ns:List (gU×Nd))(p:gU):Nd×Int:=
 if Lk p=km then(match Fi ns p with|some x=>(x,0)|none=>(Nd.zero,10)) else(Nd.zero,8)
def Hf(r:Rq)(i:Nat)(σ:ST)(l:List AS)(σ':ST)(l':List AS):Prop:=
 if r.kind<=3 then chR r.kind r.m r.p r.d iG (Hi r.kind σ.ns r.p r.d r.ver) i σ l σ' l'
 else if r.kind<=6 then σ' = { σ with ks:=Nn ((l[i]?.map AS.k).getD 0) r.kind r.p r.6 (Gt σ.ns r.p).2 σ.ks }/\l'=G9 l i (Xp r.kind r.m σ.num (Gt σ.ns r.p).1 (Gt σ.ns r.p).2 (kids r.p σ.ns))
 else σ'=σ/\l'=G9 l i (Zr (E r.m 4++E σ.num 8++E 0 4))
def DK{kind p d K}:-2147483648<=Hi kind r p d K/\Hi kind r p d K<=2147483647:=by
 have j:0<=BY r p/\BY r p<=15:=by unfold BY;(repeat' split)<;>omega
 have m:0<=X5 r p K/\X5 r p K<=15:=by unfold X5;(repeat' split)<;>omega
 have H:0<=BZ r p K/\BZ r p K<=15:=by unfold BZ;(repeat' split)<;>omega
 unfold Hi
 (repeat' split)<;>omega
def Zl{p}:-2147483648<=(Gt r p).2/\(Gt r p).2<=2147483647:=by
 unfold Gt
 grind
def DT{p}(h:(Gt r p).2=0):(p,(Gt r p).1)∈r:=by
 unfold Gt at h⊢;split at h
 ·rename_i Q;rw[aL Q];split at h
  ·rename_i x Z;exact F9 Z
  ·simp at h
 ·simp at h
structure Aaz(se):Prop where
 h8:iK se<=8
 ord:(se.map SI.k).Pairwise (·<=·)
 kw:∀p∈se,keyOf y7 3 (iE p.k)=lj (eg5 gh p.k)/\(eg5 gh p.k).wf=km
 lo:∀p∈se,iK p.lo<=9000000000
structure OZ(σ:ST):Prop where
 dn:σ.down=sd
 L:iK σ.L<=1000000
 d:∀f∈σ.L,f.d.size<=1000000000000
 num:σ.num+1<9223372036854775807
section
variable {G:Nat->R×R}
variable {J:gW}
def PE{g}(h:g.Nodup):(Rs g k).Nodup:=by
 unfold Rs
 grind
def WI{g}(h:∀x∈g,Tp x)(E:Tp k):∀x∈Rs g k,Tp x:=λx Z=>by
 unfold Rs at Z
 grind
def Full.looked{A b a}(F:Full G h J c y u A b v s se)(K:Ax u a (· = A.wm)){B}(W:Lf a A.wm B)(z:B.Nodup)(e:∀k∈B,Tp k):Full G h J c y a A { b with ks:=B } v s se/\E5 u a A v v se se:=by
 have S:=F.1;have f:A.has v A.wm:=kr (kr (kr (kr (kr (r7 iI)))));refine⟨⟨⟨S.V.kx K (λd=>D3 S.hw S.V.1 d.symm) (λd=>D3 S.hw S.V.ht.blk d.symm) (λd=>S.wmb d.symm),S.2,S.3,W,z,e,K.get S.7 (λd=>D3 S.hw S.7 d.symm),S.st.kx K (λd=>D3 S.hw S.st.blk d.symm) (λi e d=>by have ⟨cs,g⟩:=Kl S.st.row e;exact D3 S.hw g d.symm),S.9,S.l1,S.nw,S.12,S.nD,S.nK,S.nf,S.gv,S.gt,S.gm,S.gw,S.gs,S.gD,S.gK,S.gf,S.wmb,S.wsm,S.mbs⟩,F.ses.kx K (λj l d=>S.offS F.map F.ses f (d▸l)),F.map.of_block (K.block _ F.map.lt (λd=>S.wsm d.symm))⟩,⟨K.mono λj d=>r7 (by rwa[d]),λ_ d=>r7 d,λ_ d=>r7 d,iI⟩⟩
def Apm(X:It h z)(C:Cx z y J c u)(TU:TlU y J u){A a}(g:Full G h J c y u A a v s se)(I:Aaz se)(P:OZ a)(q b)(V:se[q]?=lj b)(H:b.ver=1)(r)(Y:Am4 h r)(HC:r.kind<=3->∀L,Ck L A.tb A.5 a.num a.ns->X1 z y L->Calls y7 92 #[iB A.tb,M3 r.kind r.p r.d iG r.ver] L λe w'=>e=k8 (iE (Hi r.kind a.ns r.p r.d r.ver))/\iF L w')(ad:r.kind<=3->Hi r.kind a.ns r.p r.d r.ver=0->Af7 h r.kind r.p r.d iG a.ns)(HF:4<=r.kind->r.kind<=6->∀L,Ck L A.tb A.5 a.num a.ns->X1 z y L->Calls y7 163 #[iB A.tb,pc r.p] L λe w'=>e=k8 (js #[(Gt a.ns r.p).1.val,iE (Gt a.ns r.p).2])/\iF L w'):Bg y7 km J F 68 #[iB A.1,iB b.b,J4 r.kind r.m r.p r.d iG r.ver r.6] u λx O=>x=js #[]/\VW J c O/\∃l j o w,Full G h J c y O A l j o w/\E5 u O A v j se w/\Hf r q a (se.map SI.abs) l (w.map SI.abs):=by
 have a6:b∈se:=bA V;have ah:=I.lo b a6;obtain⟨a7,_,_⟩:=g.ses.one q b V;refine Ilg λaa U=>?_;obtain⟨kind,m,p,d,K,k⟩:=r;simp only at *;have m0:=Y.m0;have m1:=Y.m1;have k1:=Y.k1;have k7:=Y.2;simp only at m0 m1 k1 k7;refine Bl func68 Ac iI (R:=λ_=>js #[]) (λ_ _=>ksi Ac _ _ _) (λ_ _=>jil Ac _ _) ?_;simp only[ntmps68,na,Nat.reduceAdd,Nat.reduceSub];refine Wqw ?_;refine Dk (A5 kind m p d iG K k) 131 ?_;walk_nrm;refine Ro8 ?_;have ak:=Ba u (A5 kind m p d iG K k) 131 iH;have W1:=C.W.alloc (A5 kind m p d iG K k) 131;have E:(u.alloc (oh (A5 kind m p d iG K k) 131)).1[iL u.1]?=lj (oh (A5 kind m p d iG K k) 131):=iw _ _;generalize u.alloc (oh (A5 kind m p d iG K k) 131)=i at ak W1 E⊢;have n:=C.kx ak W1 λ_ Z=>Z.elim;have S:=g.kf ak;have D:E5 u i A v v se se:=E5.kf ak;refine Wqw ?_;refine Wqv ?_;have W:=λM=>Jo (J:=J) (w:=i.at M) E U;have a8:kind=1∨kind=2∨kind=3->Bg y7 km J F 120 #[iB A.1,iB b.b,J4 kind m p d iG K k] i λx O=>x=js #[]/\VW J c O/\∃l j o w,Full G h J c y O A l j o w/\E5 u O A v j se w/\Hf ⟨kind,m,p,d,K,k⟩ q a (se.map SI.abs) l (w.map SI.abs):=λQ=>by
  have h3:kind<=3:=Aa;refine Bq (Ago X n (TU.kx ak C.g8 C.sz λ_ Z=>Z.elim) S P.dn I.h8 I.ord I.kw I.lo q b V H kind Q m Aa Aa p d iG K k _ DK.1 DK.2 (HC h3) (ad h3) P.L P.d P.num) ?_;rintro x O⟨hx,f,l,j,o,w,R,t,hR⟩;refine⟨hx,f,l,j,o,w,R,D.trans t,?_⟩;unfold Hf;rw[aL h3];exact hR
 have look:kind=4∨kind=5∨kind=6->Bg y7 km J F 121 #[iB A.1,iB b.b,J4 kind m p d iG K k] i λx O=>x=js #[]/\VW J c O/\∃l j o w,Full G h J c y O A l j o w/\E5 u O A v j se w/\Hf ⟨kind,m,p,d,K,k⟩ q a (se.map SI.abs) l (w.map SI.abs):=λQ=>by
  have B:p.size<=1000:=by have:=Y.p;simp only at this;omega
  have S1:Gi G J c i b.b b.k 1 b.en b.6 b.lo:=by rw[←H];exact a7.kx ak id λ_ _=>id
  refine Bq (Aog X n S.1.V S1 Aa g.1.2 g.1.3 a.ks S.1.hw g.1.nw g.1.gw g.1.wmb (I.kw b a6).2 kind Q m Aa Aa p d iG K k B _ _ Zl.1 Zl.2 DT (HF Aa Aa)) ?_;rintro x O⟨hx,f,ae,u5,K5,T⟩;have ab:(Nn b.k kind p k (Gt a.ns p).2 a.ks).Nodup/\∀N∈Nn b.k kind p k (Gt a.ns p).2 a.ks,Tp N:=by
   unfold Nn;split
   ·exact⟨PE g.1.5,WI g.1.6 ⟨_,_,_,iI,(I.kw b a6).2,by rcases Q with rfl|rfl|rfl<;>decide,B⟩⟩
   ·exact⟨g.1.5,g.1.6⟩
  have af:Lf u5 A.wm (Nn b.k kind p k (Gt a.ns p).2 a.ks):=by
   have e:O.1[A.wm]?=u5.1[A.wm]?:=T.K.block _ (aA (Bi.lt S.1.hw) K5.size) (by
    rintro(Z|Z)
    ·exact g.1.nw (Z▸a7.inb)
    ·obtain⟨es,cl,hb⟩:=Bi.obj S.1.hw;exact Gm S1.own hb Ad Z)
   exact ae.keep e.symm
  obtain⟨F5,G5⟩:=S.looked K5 af ab.1 ab.2;obtain⟨w,R,t,ha⟩:=F5.told (aE n.sz K5.size) V (H▸T);refine⟨hx,f,_,v,s,w,R,(D.trans G5).trans t,?_⟩;unfold Hf;rw[aM (by simp only;omega),aL (by simp only;omega)];refine⟨?_,ha⟩;simp[aS,V,SI.abs]
 rcases kinds k1 k7 with rfl|rfl|rfl|rfl|rfl|rfl|rfl
 ·refine Aw ?_;refine Wqw ?_;refine Wad ?_;refine C7u ?_;refine K5o ?_;refine N5y ?_;refine Gd2 ?_;refine Cy (S:=env Lv) (fn:=68) iI Ac (B7 Ab) (A6 _ _) (x:=J4 (1:Nat) m p d iG K k) (v':=i) (λM=>(W M _ _ iI _ Ac).1) (λM=>(W M _ _ iI _ Ac).2) ?_;exact Hb9
 ·refine Aw ?_;refine Wqw ?_;refine Wad ?_;refine Rgq ?_;refine Wqw ?_;refine Wad ?_;refine C7u ?_;refine K5o ?_;refine N5y ?_;refine Gd2 ?_;refine Cy (S:=env Lv) (fn:=68) iI Ac (B7 Ab) (A6 _ _) (x:=J4 (2:Nat) m p d iG K k) (v':=i) (λM=>(W M _ _ iI _ Ac).1) (λM=>(W M _ _ iI _ Ac).2) ?_;exact Hb9
 ·refine Aw ?_;refine Wqw ?_;refine Wad ?_;refine Rgq ?_;refine Wqw ?_;refine Wad ?_;refine Rgq ?_;refine Gd2 ?_;refine C7u ?_;refine Gd2 ?_;refine Cy (S:=env Lv) (fn:=68) iI Ac (B7 Ab) (A6 _ _) (x:=J4 (3:Nat) m p d iG K k) (v':=i) (λM=>(W M _ _ iI _ Ac).1) (λM=>(W M _ _ iI _ Ac).2) ?_;exact Hb9
 ·refine Aw ?_;refine Wqw ?_;refine Wad ?_;refine Rgq ?_;refine Wqw ?_;refine Wad ?_;refine Rgq ?_;refine Gd2 ?_;refine Rgq ?_;refine M8j ?_;refine Gd2 ?_;refine C7u ?_;refine K5o ?_;refine N5y ?_;refine Gd2 ?_;refine Cy (S:=env Lv) (fn:=68) iI Ac (B7 Ab) (A6 _ _) (x:=J4 (4:Nat) m p d iG K k) (v':=i) (λM=>(W M _ _ iI _ Ac).1) (λM=>(W M _ _ iI _ Ac).2) ?_;exact Cai
 ·refine Aw ?_;refine Wqw ?_;refine Wad ?_;refine Rgq ?_;refine Wqw ?_;refine Wad ?_;refine Rgq ?_;refine Gd2 ?_;refine Rgq ?_;refine M8j ?_;refine Gd2 ?_;refine Rgq ?_;refine Wqw ?_;refine Wad ?_;refine C7u ?_;refine K5o ?_;refine N5y ?_;refine Gd2 ?_;refine Cy (S:=env Lv) (fn:=68) iI Ac (B7 Ab) (A6 _ _) (x:=J4 (5:Nat) m p d iG K k) (v':=i) (λM=>(W M _ _ iI _ Ac).1) (λM=>(W M _ _ iI _ Ac).2) ?_;exact Cai
 ·refine Aw ?_;refine Wqw ?_;refine Wad ?_;refine Rgq ?_;refine Wqw ?_;refine Wad ?_;refine Rgq ?_;refine Gd2 ?_;refine Rgq ?_;refine M8j ?_;refine Gd2 ?_;refine Rgq ?_;refine Wqw ?_;refine Wad ?_;refine Rgq ?_;refine Gd2 ?_;refine C7u ?_;refine Gd2 ?_;refine Cy (S:=env Lv) (fn:=68) iI Ac (B7 Ab) (A6 _ _) (x:=J4 (6:Nat) m p d iG K k) (v':=i) (λM=>(W M _ _ iI _ Ac).1) (λM=>(W M _ _ iI _ Ac).2) ?_;exact Cai
 ·refine Aw ?_;refine Wqw ?_;refine Wad ?_;refine Rgq ?_;refine Wqw ?_;refine Wad ?_;refine Rgq ?_;refine Gd2 ?_;refine Rgq ?_;refine M8j ?_;refine Gd2 ?_;refine Rgq ?_;refine Wqw ?_;refine Wad ?_;refine Rgq ?_;refine Gd2 ?_;refine Rgq ?_;refine Gd2 ?_;refine Cy (S:=env Lv) (fn:=68) iI Ac (B7 Ab) (A6 _ _) (x:=J4 (7:Nat) m p d iG K k) (v':=i) (λM=>(W M _ _ iI _ Ac).1) (λM=>(W M _ _ iI _ Ac).2) ?_;walk_nrm;have S1:Gi G J c i b.b b.k 1 b.en b.6 b.lo:=by rw[←H];exact a7.kx ak id λ_ _=>id
  have a1:=puts_error h (m:=m) (z:=a.num) (e:=0) Aa Aa g.1.V.6 g.1.V.z2 Ae Ae;refine A2 (Om X n S1 Aa S.1.V (Gm S1.own S.1.V.1 Ad) 7 Ae m p d iG K k _ (λL hL=>hL.13) [] (qh jh 0 0) (λ_=>rfl) Ad (.nil _ _) _ parse_error _ a1 Al Al) iI Ac iI D2 ?_;rintro x O⟨rfl,T⟩;refine Vlc ?_;obtain⟨w,R,t,ha⟩:=S.told n.sz V (H▸T);refine⟨r7 trivial,trivial,trivial,T.W,a,v,s,w,R,D.trans t,?_⟩;unfold Hf;rw[aM Ad,aM Ad];exact⟨iI,ha⟩
end
def E8(z e:Int):gT:=Zr (E (-2) 4++E z 8++E e 4)
def Zj(z e):(E8 z e).length=20:=by simp[E8,Zr,be_length]
def Ua(l:List AS)(i:Nat)(b:gT):List AS:=l.modify i λa=>{ a with en:=km,lo:=a.lo++b }
def Nh(l:List AS)(i:Nat):List AS:=l.modify i λa=>{ a with ver:=1,lo:=a.lo++[0,0,0,4,0,0,0,1] }
def Abj(valid:gS)(body:gT)(i:Nat)(σ:ST)(l:List AS)(σ':ST)(l':List AS):Prop:=
 ∃a,l[i]?=lj a /\
  if a.en=km∨σ.down=km then σ'=σ/\l'=l
  else if a.ver=0 then σ'=σ/\l'=Nh l i
  else match Il valid body with
   |none=>σ' = { σ with ks:=CE a.k σ.ks }/\l'=Ua l i (E8 σ.num 3)
   |some r=>Hf r i σ l σ' l'
structure TV(valid Tabs gN tb mb num ns)(r:Rq):Prop where
 HC:r.kind<=3->∀L,Ck L tb mb num ns->X1 Tabs gN L->Calls y7 92 #[iB tb,M3 r.kind r.p r.d iG r.ver] L λe w'=>e=k8 (iE (Hi r.kind ns r.p r.d r.ver))/\iF L w'
 ok:r.kind<=3->Hi r.kind ns r.p r.d r.ver=0->Af7 valid r.kind r.p r.d iG ns
 HF:4<=r.kind->r.kind<=6->∀L,Ck L tb mb num ns->X1 Tabs gN L->Calls y7 163 #[iB tb,pc r.p] L λe w'=>e=k8 (js #[(Gt ns r.p).1.val,iE (Gt ns r.p).2])/\iF L w'
section
variable {G:Nat->R×R}
variable {J:gW}
def Br.cast{d t}(h:Br w B g cs t)(e:cs=d):=e▸h
def putR7(w:T)(b:Nat)(kind m:Int)(p d n:gU)(ver:Int)(wt:Bool):T:=((((((w.setCell (iC b) (iE kind)).setCell (iD b 1) (iE m)).setCell (iD b 2) (pc p)).setCell (iD b 3) (pc d)).setCell (iD b 4) (pc n)).setCell (iD b 5) (iE ver)).setCell (iD b 6) (gd wt)
def IM(h:w.1[b]?=lj (oh (A5 0 0 iG iG iG 0 sd) 131))(kind m p d n K a):Br w (putR7 w b kind m p d n K a) b (A5 kind m p d n K a) 131:=
 Br.cast ((((((((Br.refl h).set 0 (iE kind)).set 1 (iE m)).set 2 (pc p)).set 3 (pc d)).set 4 (pc n)).set 5 (iE K)).set 6 (gd a)) (by simp[A5])
def Afn{kind m p d n ver wt}(h:w.1[b]?=lj (oh (A5 0 0 iG iG iG 0 sd) 131))(l:∀k,¬J (.cell (iD b k)))(o)(O:o.op=.store 131 (.tmp 6) (.tmp 24))(a:Act)(f:a.eval (.tmp 6)=iB b)(L:a.eval (.tmp 24)=J4 kind m p d n ver wt):(∀M,Go.Pair.Yields I (execOp a.eval o) (w.at M) qp ((putR7 w b kind m p d n ver wt).at M))/\∀M,∀e∈(execOp a.eval o).events I (w.at M) #[],Ff J e:=by
 refine⟨λM=>kr ⟨?_,iI⟩,λM=>?_⟩
 all_goals
  have ⟨y,s,u,S,v,c,x⟩:=M4 (W:=w.at M) h iI;have ⟨Q,D,K,z,A,r,t,_⟩:=Gu (W:=w.at M) h;unfold execOp;rw[O];simp only[f,L]
 ·go_simp;unfold putR7;simp only[at_set]
 ·intro e Y;simp[go_sem,y,s,u,S,v,c,x,Q,D,K,z,A,r,t,gog _ _ _ _ (Value.string _) lc2 iI,gog _ _ _ _ (gd _) lc2 iI,storedEv]at Y;rcases Y with rfl|rfl|rfl|rfl|rfl|rfl|rfl<;>exact Cl (l _)
def VW.putR7(W:VW J Bs w)(b kind m p d n K a):VW J Bs (putR7 w b kind m p d n K a):=((((((W.set _ _ _).set _ _ _).set _ _ _).set _ _ _).set _ _ _).set _ _ _).set _ _ _
def Full.upd{A a}(F:Full G h J Bs y u A a v s se){p}(V:se[i]?=lj p)(K:Ax u O (· = p.b))(b)(D:b.b=p.b)(a6:b.k=p.k)(Y:b.6=p.6)(N:Gi G J Bs O b.b b.k b.ver b.en b.6 b.lo):Full G h J Bs y O A a v s (se.set i b)/\E5 u O A v v se (se.set i b):=by
 have d:i<iK se:=(aF.1 V).1;have t:∀j,j=p.b->Hg se j:=λj l=>⟨i,p,V,r7 l⟩;obtain⟨m,a7,a8⟩:=F.ses.one i p V;have B:((se.set i b).map λp=>(p.k,p.b))=se.map λp=>(p.k,p.b):=by
  apply bL;intro j
  grind
 have o:∀j,Hg (se.set i b) j->Hg se j:=λj⟨k,q,P,f⟩=>by
  by_cases W:i=k
  ·subst W;rw[bJ d]at P;obtain rfl:=aB P;unfold SI.has at f;rw[D,Y]at f;exact⟨i,p,V,f⟩
  ·rw[bE W]at P;exact⟨k,q,P,f⟩
 have H:∀j k(q r:SI),(se.set i b)[j]?=lj q->(se.set i b)[k]?=lj r->j≠k->q.b≠r.b/\∀g,q.6.ownBlock=lj g->r.6.ownBlock≠lj g:=λj k q r l P w=>by
  have e:∀(x:Nat)q,(se.set i b)[x]?=lj q->∃U,se[x]?=lj U/\q.b=U.b/\q.6=U.ov:=λx q Z=>by
   by_cases L:i=x
   ·subst L;rw[bJ d]at Z;obtain rfl:=aB Z;exact⟨p,V,D,Y⟩
   ·rw[bE L]at Z;exact⟨q,Z,iI,iI⟩
  obtain⟨U,C,z,T⟩:=e j q l;obtain⟨E,I,M,R⟩:=e k r P;rw[z,T,M,R];exact F.ses.apart j k U E C I w
 refine⟨⟨F.1.kx K (λj l c=>F.1.offS F.map F.ses l (t j c)) (λc=>F.1.offD F.ses (t _ c)),⟨λj q l=>?_,H⟩,?_⟩,⟨K.mono λj c=>kr (t j c),λ_ c=>r7 c,λj l=>r7 (o j l),B⟩⟩
 ·by_cases W:i=j
  ·subst W;rw[bJ d]at l;obtain rfl:=aB l;exact⟨N,by rwa[D],by rwa[Y]⟩
  ·rw[bE W]at l;obtain⟨S,aa⟩:=F.ses.apart i j p q V l W;obtain⟨Q,n,X⟩:=F.ses.one j q l;exact⟨Q.kx K (λc=>S c.symm) λg a1 c=>Q.ap _ a1 (by rw[c];exact m.inb),n,X⟩
 ·rw[B];exact F.map.of_block (K.block _ F.map.lt λc=>F.1.offS F.map F.ses (kr (kr (kr (kr (kr (kr iI)))))) (t _ c))
def Gi.setEn{num K en t s}(S:Gi G J Bs u D num K en t s)(v):Gi G J Bs (u.setCell (iD D 4) (gd v)) D num K v t s:=by
 obtain⟨e,h,N,F,T,q,z⟩:=S.row;refine⟨S.inb,S.j,⟨e.setIfInBounds 4 (gd v),by rw[heap_setCell,aL iI,h];rfl,by simp[N],?_,?_,?_,?_⟩,Dh S.own λg f=>Eg _ _ λi=>S.ap g f (i▸S.inb),S.ap,λx Z=>?_⟩
 ·grind
 ·grind
 ·grind
 ·grind
 ·rw[heap_setCell,aL iI,h]at Z;cases Z
  show(e.setIfInBounds 4 (gd v))[1]?=_/\(e.setIfInBounds 4 (gd v))[2]?=_;exact Dlp
def Apw{p b}(V:se[i]?=lj p):((se.set i { p with en:=km }).set i { { p with en:=km } with lo:=p.lo++b,ov:=S }).map SI.abs=Ua (se.map SI.abs) i b:=by
 apply bL;intro g;unfold Ua;rw[List.set_set,aS,fD,aS];by_cases H:i=g
 ·exact Ksg
 grind
def JP(svb:Nat)(vc:gY)(sb:Nat)(sn:Int)(w:T):Prop:=w.1[svb]?=lj (oh vc 95)/\w.cell? (iC sb)=lj (iE sn)
def JP.at{svb vc sb sn}(w d)(h:JP svb vc sb sn w):JP svb vc sb sn (w.at d):=h
def OH{l a}(V:l[i]?=lj a)(b):G9 (l.set i { a with en:=km }) i b=Ua l i b:=by
 apply bL;intro j;unfold G9 Ua
 grind
def Ant(ad:It h z)(C:Cx z y J Bs u){A a}(g:Full G h J Bs y u A a v b se)(i N)(V:se[i]?=lj N)(ar:iK N.lo<=9000000000)(K)(al:-2147483648<=K)(an:K<=2147483647):Bg y7 km J F 49 #[iB A.1,iB N.b,iE K] u λx O=>x=js #[]/\VW J Bs O/\∃n,Full G h J Bs y O A { a with ks:=CE N.k a.ks } v b n/\E5 u O A v v se n/\n.map SI.abs=Ua (se.map SI.abs) i (E8 a.num K):=by
 have S:=g.1;obtain⟨ai,g0,_⟩:=g.ses.one i N V;have t:∀d,¬J (.cell (iD A.1 d)):=λd Z=>S.V.nv (C.W.2 _ Z);apply Bl func49 Ac iI (R:=λ_=>js #[]) (λ_ _=>ksi Ac _ _ _) (λ_ _=>jil Ac _ _);simp only[ntmps49,na,Nat.reduceAdd,Nat.reduceSub];refine Wqw ?_;refine Trb ?_;refine Cy (S:=env Lv) iI Ac (B7 Ab) (A6 _ _) (x:=qp) (v':=(u.setCell (iD N.b 4) (gd km))) (λm=>kr ⟨by have H:=(show ur (World.at u m) _=_ from ai.cell.2.2.1);have a1:=(show tv (World.at u m) _=sd from(ai.fz 4));walk_nrm;go_simp;first|done|rfl,rfl⟩) (λm=>by have H:=(show ur (World.at u m) _=_ from ai.cell.2.2.1);have a1:=(show tv (World.at u m) _=sd from(ai.fz 4));walk_nrm;intro av Y;simp[go_sem,H,a1,gog _ _ _ _ (Value.slice _ _ _) lc2 iI,gog _ _ _ _ (gd _) lc2 iI,storedEv]at Y;subst Y;exact Cl (ai.j 4 Ae Ae)) ?_;walk_nrm;refine Ro8 ?_;have l:=Et u N.b 4 (gd km);have P:=C.W.set N.b 4 (gd km);have S1:=ai.setEn km;generalize u.setCell (iD N.b 4) (gd km)=u1 at l P S1⊢;obtain⟨M,G1⟩:=g.upd V l { N with en:=km } rfl rfl rfl S1;have C1:=C.kx l P λj Z=>by rwa[Z]
 have Q:(se.set i { N with en:=km })[i]?=lj { N with en:=km }:=bJ (aF.1 V).1;refine Aw ?_;have e:=JP.at (svb:=A.1) (vc:=B8 A.D A.tb A.wm A.sm a.last a.down) (sb:=N.b) (sn:=N.k);refine Em (I:=JP A.1 (B8 A.D A.tb A.wm A.sm a.last a.down) N.b N.k) Ac λE=>?_;have T:JP A.1 (B8 A.D A.tb A.wm A.sm a.last a.down) N.b N.k (u1.at E):=⟨M.1.V.1,S1.cell.1⟩;refine Zcg ?_;refine A9.tp 5 e Am6 T ?_;walk_nrm;refine A9.tp 6 e Am6 T ?_;walk_nrm;refine A9.tl 3 e Am6 T (λw (W:JP _ _ _ _ w)=>(cellOf (j:=2) W.1 iI:w.cell? (iD A.1 2)=lj (.map (lj A.wm)))) (t 2) ?_;walk_nrm;refine A9.tl 7 e Am6 T (λw (W:JP _ _ _ _ w)=>(W.2:w.cell? (iC N.b)=lj (iE N.k))) (ai.j 0 Ae Ae) ?_;walk_nrm;refine Ca (i:=8) (Anu (P.at E) A.wm N.k a.ks (M.1.hw.keep iI) S.6 S.nw) Ab iI Ac iI Af ?_;rintro x u2⟨rfl,W2,ao,aq⟩;have K2:Ax u1 u2 (· = A.wm):=aq.ofAt;have aa:(CE N.k a.ks).Sublist a.ks:=by unfold CE;exact List.filter_sublist
 obtain⟨c,G2⟩:=M.looked K2 ao (S.5.sublist aa) (λd hk=>S.6 d (aa.subset hk));obtain⟨S2,_,_⟩:=c.ses.one i _ Q;refine⟨(⟨c.1.V.1,S2.cell.1⟩),?_⟩;walk_nrm;refine Gql ?_;have C2:=C1.kx K2 W2 λj Z=>by rw[Z];exact S.gw
 refine Dur ?_;refine Bp (cellOf (j:=1) c.1.V.1 iI) (t 1) ?_;walk_nrm;refine A2 (Gg (f:=42) (args:=#[iB A.tb]) Ae W2 (X:=λ_=>False) (R:=λx _=>x=iE a.num) (λ_ _ Z=>Z) λU s=>(Kb U A.tb A.5 a.num a.ns (c.1.V.ht.sim s S.V.4 S.V.nm)).mono λba o Z=>⟨⟨_,Z.1,iI⟩,by rw[Z.2];exact Ax.refl _ _⟩) iI Ac iI Af ?_;rintro x u3⟨K3,X,L3,au,aw,rfl⟩;walk_nrm;refine V2g ?_;refine A2 (Gg (f:=71) (args:=#[iE a.num,iE K]) Ae X (X:=λ_=>False) (R:=λx o=>o.ownsRow u3.1.size 5 1 x (E8 a.num K).length (A4 (E8 a.num K))) (λ_ _ Z=>Z) λU s=>?_) iI Ac iI Af ?_
 ·have Gv:=(C2.kx K3 X λ_ Z=>Z.elim).glob s;refine(Acb ad U Gv.tabs Gv.table a.num K S.V.6 S.V.z2 al an).mono λba o Z=>?_;exact Boo
 rintro f ah⟨L,a7,aj,ab,ak,af⟩;walk_nrm;obtain⟨r,q⟩:=Qj a7 (λi V=>X.lt V) ab af;have a6:=K3.trans L;have F4:=c.kf a6;obtain⟨S4,_,_⟩:=F4.ses.one i _ Q;have ax:=Zj a.num K;refine A2 (OG a7 S4 f (E8 a.num K) Aa (by simp only;omega) r λk p=>(q k p).1) iI Ac iI Af ?_;rintro x ae⟨rfl,D⟩;walk_nrm;obtain⟨n,B,I,ha⟩:=F4.told (aE C2.sz a6.size) Q D;refine Au ⟨r7 iI,iI,trivial,D.W,n,B,((G1.trans G2).trans (E5.kf a6)).trans I,?_⟩;rw[ha,(fR)];exact OH (a:=N.abs) (by rw[aS,V];rfl) _
def Tn.swap(h:Tn G J Bs y u se){p p'}(V:se[i]?=lj p)(n:y<=iL u.1)(K:Ax u O λj=>j=p.b∨p.6.ownBlock=lj j)(D:p'.b=p.b)(N:Gi G J Bs O p'.b p'.k p'.ver p'.en p'.6 p'.lo)(z:∀g,p'.6.ownBlock=lj g->p.6.ownBlock=lj g∨iL u.1<=g):Tn G J Bs y O (se.set i p'):=by
 obtain⟨o,I,X⟩:=h.one i p V;refine⟨λj q l=>?_,λj k q r l a t=>?_⟩
 ·by_cases W:i=j
  ·grind
  ·rw[bE W]at l;obtain⟨m,f⟩:=h.apart i j p q V l W;obtain⟨Q,x,P⟩:=h.one j q l;refine⟨Q.kx K ?_ λg b=>?_,x,P⟩
   ·rintro(e|e)
    ·exact m e.symm
    ·exact o.ap _ e Q.inb
   ·rintro(e|e)
    ·exact Q.ap _ b (e▸o.inb)
    ·exact f g e b
 ·have v:∀j k(q r:SI),i=j->i≠k->(se.set i p')[j]?=lj q->se[k]?=lj r->q.b≠r.b/\∀g,q.6.ownBlock=lj g->r.6.ownBlock≠lj g:=by
   rintro j k q r rfl M l a;rw[bJ ((aF.1 V).1)]at l;obtain rfl:=aB l;obtain⟨m,f⟩:=h.apart i k p r V a M;refine⟨D▸m,λg b Y=>?_⟩;exact Tyd
  by_cases C:i=j
  ·have d:i≠k:=λe=>t (C.symm.trans e);rw[bE d]at a;exact v j k q r C d l a
  ·by_cases d:i=k
   ·rw[bE C]at l;obtain⟨P,c⟩:=v k j r q d C a l;exact⟨P.symm,λg b Y=>c g Y b⟩
   ·rw[bE C]at l;rw[bE d]at a;exact h.apart j k q r l a t
def Full.swap{A a}(c:Full G h J Bs y u A a v s se){p p'}(V:se[i]?=lj p)(r:y<=iL u.1)(d:Ax u O λj=>j=p.b∨p.6.ownBlock=lj j)(D:p'.b=p.b)(E:p'.k=p.k)(N:Gi G J Bs O p'.b p'.k p'.ver p'.en p'.6 p'.lo)(z:∀b,p'.6.ownBlock=lj b->p.6.ownBlock=lj b∨iL u.1<=b):Full G h J Bs y O A a v s (se.set i p')/\E5 u O A v v se (se.set i p'):=by
 have t:∀j,(j=p.b∨p.6.ownBlock=lj j)->Hg se j:=λj l=>⟨i,p,V,l⟩;have K:Ax u O (Hg se):=d.mono t;have B:((se.set i p').map λp=>(p.k,p.b))=se.map λp=>(p.k,p.b):=by
  apply bL
  grind
 refine⟨⟨c.1.kx K (λj l=>c.1.offS c.map c.ses l) (c.1.offD c.ses),c.ses.swap V r d D N z,?_⟩,⟨K.mono λ_ c=>kr c,λ_ c=>r7 c,λj l=>?_,B⟩⟩
 ·exact B8n
 ·obtain⟨g,q,E,f⟩:=l;by_cases H:i=g
  ·subst H;rw[bJ ((aF.1 V).1)]at E;obtain rfl:=aB E;rcases f with f|f
   ·grind
   grind
  ·rw[bE H]at E;exact r7 ⟨g,q,E,f⟩
def Amu{p}(V:se[i]?=lj p):(se.set i { p with ver:=1,lo:=p.lo++[0,0,0,4,0,0,0,1],ov:=S }).map SI.abs=Nh (se.map SI.abs) i:=by
 apply bL;intro g;unfold Nh;exact Dp5
def Apb(U:It h z)(C:Cx z y J Bs u)(t:TlU y J u){A a}(I:Full G h J Bs y u A a v s se)(so:Aaz se)(sk:OZ a)(k b)(V:se[k]?=lj b)(a7:b.ver=1)(j:gT)(af:iK j<=1000)(T)(ah:BsB Bs u T j)(ai:∀r,Il h j=lj r->TV h z y A.tb A.5 a.num a.ns r):Bg y7 km J F 48 #[iB A.1,iB b.b,T] u λx O=>x=js #[]/\VW J Bs O/\∃o m K w,Full G h J Bs y O A o m K w/\E5 u O A v m se w/\(match Il h j with|none=>o = { a with ks:=CE b.k a.ks }/\w.map SI.abs=Ua (se.map SI.abs) k (E8 a.num 3)|some r=>Hf r k a (se.map SI.abs) o (w.map SI.abs)):=by
 obtain⟨aa,_,_⟩:=I.ses.one k b V;have j3:=aa.j 3 Ae Ae;have c3:u.cell? (iD b.b 3)=lj (iE 1):=by rw[←a7];exact aa.cell.2.1
 refine Bl func48 Ac iI (R:=λ_=>js #[]) (λ_ _=>ksi Ac _ _ _) (λ_ _=>jil Ac _ _) ?_;simp only[ntmps48,na,Nat.reduceAdd,Nat.reduceSub];refine Mk2 ?_;refine Trb ?_;refine Bp c3 j3 ?_;walk_nrm;refine Keu ?_;refine Ve5 ?_;refine Wqw ?_;refine Trb ?_;refine Bp c3 j3 ?_;walk_nrm;refine V2g ?_;refine A2 (Gg (f:=67) (args:=#[iE 1,T]) Ae C.W (X:=λ_=>False) (R:=λx _=>x=Ae5 (Il h j)) (λ_ _ Z=>Z) λak hs=>(SD U ak (C.glob hs) C.g8 j af T (ah.sim hs)).mono λal w' Z=>⟨⟨_,Z.1,iI⟩,Bo Z.2⟩) iI Ac iI Af ?_;rintro x E⟨L,e,L1,ag,an,rfl⟩;walk_nrm;generalize ab:Il h j=R;have S:=I.kf L;have n:=C.kx L e λ_ Z=>Z.elim;obtain⟨c,g,l,Y,i,p,H,f,hrel⟩:∃(c g:Int)(l Y:gU)(i:Int)(p H:Bool),Ae5 R=js #[J4 c g l Y iG i p,gd H]/\((R=jh/\H=sd)∨∃r,R=lj r/\H=km/\c=r.kind/\g=r.m/\l=r.p/\Y=r.d/\i=r.ver/\p=r.6):=by
  cases R with
  |none=>exact⟨_,_,_,_,_,_,_,iI,r7 ⟨iI,iI⟩⟩
  |some r=>exact⟨_,_,_,_,_,_,_,iI,kr ⟨r,iI,iI,iI,iI,iI,iI,iI,iI⟩⟩
 rw[f];refine Trb ?_;refine Dk (A5 0 0 iG iG iG 0 sd) 131 ?_;walk_nrm;have W:=Ba E (A5 0 0 iG iG iG 0 sd) 131 iH;have ad:=e.alloc (A5 0 0 iG iG iG 0 sd) 131;have D:(E.alloc (oh (A5 0 0 iG iG iG 0 sd) 131)).1[iL E.1]?=lj (oh (A5 0 0 iG iG iG 0 sd) 131):=iw _ _;generalize E.alloc (oh (A5 0 0 iG iG iG 0 sd) 131)=B at W ad D⊢;have aw:¬Bs E.1.size:=λZ=>by have:=e.lt Z;omega
 have M:∀N,¬J (.cell (iD E.1.size N)):=λN Z=>aw (C.W.2 _ Z);have a6:=Afn (J:=J) (kind:=c) (m:=g) (p:=l) (d:=Y) (n:=iG) (ver:=i) (wt:=p) D M;have aj:=IM D c g l Y iG i p;refine Cy (S:=env Lv) (fn:=48) iI Ac (B7 Ab) (A6 _ _) (x:=qp) (v':=putR7 B E.1.size c g l Y iG i p) (a6 _ iI _ Ac Ac).1 (a6 _ iI _ Ac Ac).2 ?_;walk_nrm;have a8:VW J Bs (putR7 B E.1.size c g l Y iG i p):=ad.putR7 _ _ _ _ _ _ _ _;generalize putR7 B E.1.size c g l Y iG i p=Q at aj a8⊢;have q:=L.trans (W.trans' (Ax.of_grown (X:=(· = iL E.1)) aj.grown (r7 iI)) λao hj aq=>Aa);have C3:=C.kx q a8 λ_ Z=>Z.elim;have ae:=I.kf q;refine Keu ?_;refine M8j ?_;refine Tfz ?_;rcases hrel with⟨rfl,rfl⟩|⟨r,rfl,rfl,rfl,rfl,rfl,rfl,rfl,rfl⟩
 ·refine Keu ?_;refine N5y ?_;refine Wqw ?_;refine Wad ?_;refine A2 (Ant U C3 ae k b V (so.lo b (bA V)) 3 Ae Ae) iI Ac iI D2 ?_;rintro x u4⟨rfl,X,w,P,a1,d⟩;walk_nrm;refine Ro8 ?_;exact Dt ⟨kr iI,iI,trivial,X,_,v,s,w,P,(E5.kf q).trans a1,iI,d⟩
 ·have rk:=ai r ab;refine Keu ?_;refine Ve5 ?_;refine Gd2 ?_;refine Cy (S:=env Lv) (fn:=48) iI Ac (B7 Ab) (A6 _ _) (x:=J4 r.kind r.m r.p r.d iG r.ver r.6) (v':=Q) (λd'=>(Jo (J:=J) (w:=Q.at d') aj.blk M _ _ iI _ Ac).1) (λd'=>(Jo (J:=J) (w:=Q.at d') aj.blk M _ _ iI _ Ac).2) ?_;walk_nrm;refine A2 (Apm U C3 (t.kx q C.g8 C.sz λ_ Z=>Z.elim) ae so sk k b V a7 r (Aev ab) rk.1 rk.ok rk.3) iI Ac iI Af ?_;rintro x u4⟨rfl,X,o,m,K,w,P,a1,hR⟩;walk_nrm;exact Au ⟨r7 iI,iI,trivial,X,o,m,K,w,P,(E5.kf q).trans a1,hR⟩
def Al8(U:It h z)(C:Cx z y J Bs u){A a}(b:Full G h J Bs y u A a v s se)(I:Aaz se)(i N)(V:se[i]?=lj N)(E:N.ver=0)(T)(c:BsB Bs u T [0,0,0,1]):Bg y7 km J F 48 #[iB A.1,iB N.b,T] u λx O=>x=js #[]/\VW J Bs O/\∃w,Full G h J Bs y O A a v s w/\E5 u O A v v se w/\w.map SI.abs=Nh (se.map SI.abs) i:=by
 have l:=I.lo N (bA V);obtain⟨q,m,d⟩:=b.ses.one i N V;have S1:Gi G J Bs u N.b N.k 0 N.en N.6 N.lo:=by rwa[←E]
 apply Bl func48 Ac iI (λ_ _=>ksi Ac _ _ _) (λ_ _=>jil Ac _ _);simp only[ntmps48,na,Nat.reduceAdd,Nat.reduceSub];refine Mk2 ?_;refine Trb ?_;apply Bp S1.cell.2.1 (q.j 3 Ae Ae);walk_nrm;refine Keu ?_;refine N5y ?_;refine Wqw ?_;refine Trb ?_;refine A2 (Akt U C S1 Aa d (iB A.1) T c) iI Ac iI Af ?_;rintro x Z⟨rfl,e,P,S,f,j⟩;walk_nrm;refine Ro8 ?_;obtain⟨k,D⟩:=b.swap (p':={ N with ver:=1,lo:=N.lo++[0,0,0,4,0,0,0,1],ov:=S }) V C.sz e rfl rfl f j;exact Dt ⟨kr iI,iI,trivial,P,_,k,D,(by
    apply bL;intro g;unfold Nh;rw[aS,fD,aS];by_cases H:i=g
    ·exact Ksg
    grind)⟩
end
end Go.Proofs.YtcbilgmfdgpomaaGreatDoor

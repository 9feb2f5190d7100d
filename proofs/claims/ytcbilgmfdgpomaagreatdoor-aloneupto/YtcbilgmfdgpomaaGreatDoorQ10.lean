import Derived.Test.YtcbilgmfdgpomaaGreatDoorQ09
import Derived.Test.YtcbilgmfdgpomaaGreatDoorQ08
open Array renaming size → iL
set_option maxHeartbeats 4000000
set_option maxRecDepth 8000
set_option linter.all false
open Option renaming some → lj,none → jh,toList_some → mg4,toList_none → wxw
open Go.Proofs.Tryz renaming prog → y7,underlying92 → dba
open Go renaming undef → qp,Value → uo,World → gk,heap_alloc_new → iw,Goroutine → vr,Frame → qq,TypeId → q9,Oper → ox,results_tmp → zx,FuncId → x8,events_store → gog
open Bool renaming false → sd,true → km
open List.range renaming loop → zpm
open List renaming range → yo,getElem?_toArray → rcn,length → iK
open Go.Act renaming eval → euo
open Go.Value renaming ownBlock → yq,slice → qh,int → uu,string → pc,pointer → pdw,bool → gd,tuple → js,agg → faj
open Go.Conc renaming events_results_tmp → vk3
open Prod renaming fst → l9
open Go.World renaming cell? → ur
open Go.Region renaming wanted → qy
open Go.Sem renaming run_bind → asz
open Go.Exit renaming normal → uz7
open Go.Mode renaming plain → lc2
open Go.Goroutine renaming callers → jzb
open Go.Deferred renaming ofValue → k9
open Go.Obj renaming cells → oh
open Go.IntKind renaming i64 → gh
open Or renaming inl → r7,inr → kr
open Go.Pair renaming sh → Q
open Go.Proofs.Tryz Orch
variable {B O u v w:gk}{Bs X c:gV}{C K L M N U Z co e g i j k l n sm svb x y z:Nat}{E:gR}{F:vr->gk->Prop}{H a o:uo}{R ss:List (Int×Nat)}{W:gT}{b:q9}{cs:List qq}{d:gY}{f:x8}{fr:qq}{h:vr}{p q:Prop}{s st what:Int}{t:Bool}
def Tyd(h:p:=by
 rcases z g b with C|C
 ·exact f g C Y
 ·have:=Cm (h.one k r a).1.own Y;omega):p:=h
def Di1(k:q)(h:Hd q->p:=by
 intro kz;refine EV.ropP (S:=env Lv) iI Ac (by intro cz N;cases N) (B7 Ab) (A6 _ _) Aiy Aiy ?_;simp only[He,rev,Act.eval,rn,bD,aV,aW,Nat.reduceAdd,bK,bI,bG,List.range,List.range.loop,aX];exact kz.1):p:=h ⟨k⟩
def N5y(k:q)(h:Hd q->p:=by
 intro kz;refine A3 (t:=true) Ac ?_;simp only[bQ,bR,aR];exact kz.1):p:=h ⟨k⟩
def O0v(k:q)(h:Hd q->p:=by
 intro kz;simp only[He,rev,Act.eval,rn,bD,aV,aW,Nat.reduceAdd,bK,bI,bG,List.range,List.range.loop,aX];refine EV.ropP (S:=env Lv) iI Ac (by intro cz N;cases N) (B7 Ab) (A6 _ _) Aiy Aiy ?_;simp only[He,rev,Act.eval,rn,bD,aV,aW,Nat.reduceAdd,bK,bI,bG,List.range,List.range.loop,aX];exact kz.1):p:=h ⟨k⟩
def Ja7(h:p:=by
 unfold execOp;walk_nrm;simp only[Sem.run_bind,Y]
 rfl):p:=h
def Spo(h:p:=by
 obtain rfl:r=X:=by simpa[Value.ownBlock] using z
 rw[aq]at O;cases O;cases H):p:=h
def Oj2(h:p:=by
 refine⟨_,_,.inl ?_,⟨iI,N⟩,Ax.of_below (Bf _ _) (aC _)⟩;unfold execOp;walk_nrm;simp only[Sem.run_bind,Y]
 rfl):p:=h
def W62(h:p:=by
 simp only[cK,bW,bZ,dQ,bH,dL,or_false,not_or,gM,Option.toList_some,Option.toList_none,and_true,not_false_eq_true];omega):p:=h
def Eqj(h:p:=by
 cases l with
 |cell y=>
  obtain⟨g,q,Q⟩:=y;simp only[Ge,Ei,Loc.cell.injEq,Addr.mk.injEq]at c;obtain⟨S,rfl,rfl⟩:=c;rw[Gq S]
 |_=>simp[Ge]at c):p:=h
def Mdt(k:q)(h:Hd q->p:=by
 intro kz;refine Cd (.bool true) ?_;walk_nrm;exact kz.1):p:=h ⟨k⟩
def Xol(k:q)(h:Hd q->p:=by
 intro kz;refine Cd (.bool false) ?_;walk_nrm;exact kz.1):p:=h ⟨k⟩
def Ree(k:q)(h:Hd q->p:=by
 intro kz;refine Cd (.bool true) ?_;walk_nrm;refine Au ?_;simp only[A1,As];refine Aw ?_;refine A3 (t:=true) Ac ?_;simp only[bQ,bR,aR];refine B6 ?_;simp only[A1,As];refine Aw (Dr ?_);exact kz.1):p:=h ⟨k⟩
def Z2x(k:q)(h:Hd q->p:=by
 intro kz;refine A3 (t:=false) Ac ?_;simp only[bQ,bR,aR];refine Lc ?_;simp only[A1,As,bQ,bR];exact kz.1):p:=h ⟨k⟩
def Ve5(k:q)(h:Hd q->p:=by
 intro kz;refine A3 (t:=false) Ac ?_;simp only[bQ,bR,aR];refine B6 ?_;simp only[A1,As];exact kz.1):p:=h ⟨k⟩
namespace Go.Proofs.YtcbilgmfdgpomaaGreatDoor
variable {P:Program}{T:List Tl}{m:gW}
open Go Go.Conc Go.Pair Go.RowKit
structure SI where
 k:Int
 b:Nat
 ver:Int
 en:Bool
 lo:gT
 ov:uo
def SI.has(p:SI)(i:Nat):Prop:=i=p.b∨p.6.ownBlock=lj i
def Hg(se:List SI)(i:Nat):Prop:=∃(j:Nat)(p:SI),se[j]?=lj p/\p.has i
structure Tn(cu:Nat->uo×uo)(J Bs gN u)(se:List SI):Prop where
 one:∀(i:Nat)p,se[i]?=lj p->Gi cu J Bs u p.b p.k p.ver p.en p.6 p.lo/\gN<=p.b/\∀g,p.6.ownBlock=lj g->gN<=g
 apart:∀(i j:Nat)p q,se[i]?=lj p->se[j]?=lj q->i≠j->p.b≠q.b/\∀g,p.6.ownBlock=lj g->q.6.ownBlock≠lj g
structure Oh(N se Fu)(ls:gR):Prop where
 len:iK Fu=iK se
 lls:iK ls=iK se
 one:∀(i:Nat)(p:SI)(l:gT),se[i]?=lj p->ls[i]?=lj l->∃ov',Fu[i]?=lj { p with lo:=p.lo++l,ov:=ov' }/\∀g,ov'.ownBlock=lj g->p.6.ownBlock=lj g∨N<=g
section
variable {cu:Nat->uo×uo}
variable {J:gW} {se a:List SI} {B:gR}
def Tn.lt(h:Tn cu J c y u se){i}(V:Hg se i):i<iL u.1:=by
 obtain⟨j,p,l,rfl|Q⟩:=V
 ·exact(h.one j p l).1.lt
 ·exact Cm (h.one j p l).1.own Q
def Tn.ge(h:Tn cu J c y u se)(V:Hg se i):y<=i:=by
 obtain⟨j,p,l,rfl|Q⟩:=V
 ·exact(h.one j p l).2.1
 ·exact(h.one j p l).2.2 _ Q
def Tn.kx(h:Tn cu J c y u se)(K:Ax u O X)(t:∀i,Hg se i->¬X i):Tn cu J c y O se:=
 ⟨λi p Q=>⟨(h.one i p Q).1.kx K (t _ ⟨i,p,Q,r7 iI⟩) λg G=>t _ ⟨i,p,Q,kr G⟩,(h.one i p Q).2⟩,h.apart⟩
def Tn.kf(h:Tn cu J c y u se)(K:Ax u O iH):=h.kx K λ_ _=>id
def Tn.told(h:Tn cu J c y u se){p}(V:se[i]?=lj p){l}(s:y<=iL u.1)(T:Told cu J c u O p.b p.k p.ver p.en p.6 p.lo l):∃S,Tn cu J c y O (se.set i { p with lo:=p.lo++l,ov:=S })/\∀g,S.ownBlock=lj g->p.6.ownBlock=lj g∨iL u.1<=g:=by
 obtain⟨S,N,z⟩:=T.S;obtain⟨o,I,X⟩:=h.one i p V;refine⟨S,⟨λj q E=>?_,λj k q r E a t=>?_⟩,z⟩
 ·by_cases W:i=j
  ·grind
  ·rw[bE W]at E;obtain⟨m,f⟩:=h.apart i j p q V E W;obtain⟨Q,x,P⟩:=h.one j q E;refine⟨Q.kx T.K ?_ λg b=>?_,x,P⟩
   ·rintro(e|e)
    ·exact m e.symm
    ·exact o.ap _ e Q.inb
   ·rintro(e|e)
    ·exact Q.ap _ b (e▸o.inb)
    ·exact f g e b
 ·have v:∀j k(q r:SI),i=j->i≠k->(se.set i { p with lo:=p.lo++l,ov:=S })[j]?=lj q->se[k]?=lj r->q.b≠r.b/\∀g,q.6.ownBlock=lj g->r.6.ownBlock≠lj g:=by
   rintro j k q r rfl M E a;rw[bJ ((aF.1 V).1)]at E;obtain rfl:=aB E;obtain⟨m,f⟩:=h.apart i k p r V a M;refine⟨m,λg b Y=>?_⟩;exact Tyd
  by_cases C:i=j
  ·have d:i≠k:=λe=>t (C.symm.trans e);rw[bE d]at a;exact v j k q r C d E a
  ·by_cases d:i=k
   ·rw[bE C]at E;obtain⟨P,n⟩:=v k j r q d C a E;exact⟨P.symm,λg b Y=>n g Y b⟩
   ·rw[bE C]at E;rw[bE d]at a;exact h.apart j k q r E a t
def Oh.refl(N se):Oh N se se (List.replicate (iK se) []):=
 ⟨iI,Ad,λi p l Q K=>⟨p.6,by
  have:=dR (bA K)
  simp_all,λg G=>r7 G⟩⟩
def Oh.set(h:Oh N se a B){i:Nat}{p u}{x l:gT}(b:se[i]?=lj p)(K:B[i]?=lj x)(X:a[i]?=lj u){ov' M}(c:N<=M)(z:∀g,ov'.ownBlock=lj g->u.6.ownBlock=lj g∨M<=g):Oh N se (a.set i { u with lo:=u.lo++l,ov:=ov' }) (B.set i (x++l)):=by
 obtain⟨d,C,J⟩:=h.one i p x b K;rw[X]at C;obtain rfl:=aB C;refine⟨by simp[h.len],by simp[h.2],λj q m f Q=>?_⟩;by_cases W:i=j
 ·subst W;rw[bJ ((aF.1 K).1)]at Q;obtain rfl:=aB Q;rw[b]at f;obtain rfl:=aB f;refine⟨ov',by rw[bJ ((aF.1 X).1)];simp only[cB],λg G=>?_⟩;rcases z g G with T|T
  ·exact J g T
  ·exact kr (aE c T)
 ·rw[bE W]at Q;rw[bE W];exact h.one j q m f Q
def Oh.sin(h:Oh N se a B)(V:Hg a i):Hg se i∨N<=i:=by
 have ⟨j,u,f,Q⟩:=V;have F:j<iK se:=by have:=(aF.1 f).1;have:=h.len;omega
 obtain⟨l,K⟩:∃l,B[j]?=lj l:=⟨_,aH (by have:=h.2;omega)⟩;have ⟨S,C,J⟩:=h.one j se[j] l (aH F) K;rw[f]at C;obtain rfl:=aB C;rcases Q with Q|Q
 ·exact r7 ⟨j,_,aH F,r7 Q⟩
 ·rcases J _ Q with T|T
  ·exact r7 ⟨j,_,aH F,kr T⟩
  ·exact kr T
def Oh.kb(h:Oh N se a B):(a.map λp=>(p.k,p.b))=se.map λp=>(p.k,p.b):=by
 apply bL;intro j;by_cases F:j<iK se
 ·obtain⟨l,K⟩:∃l,B[j]?=lj l:=⟨_,aH (by have:=h.2;omega)⟩;have ⟨S,C,_⟩:=h.one j se[j] l (aH F) K
  grind
 ·have:=h.len
  grind
def evB(z x:Int)(q:gU):gT:=be (be (-1) 4++be z 8++be 0 4++be x 4++be q.size 4++q.data.toList).length 4++(be (-1) 4++be z 8++be 0 4++be x 4++be q.size 4++q.data.toList)
def UH(z x q):(evB z x q).length=28+q.size:=by
 have:iK q.data.toList=q.size:=iI;simp only[evB,aK,be_length,this];omega
def evs(num:Int)(E:List (Int×gU)):gT:=E.flatMap λe=>evB num e.1 e.2
def Aca(num E e):evs num (E++[e])=evs num E++evB num e.1 e.2:=by simp[evs]
def UJ{num E}(h:∀e∈E,e.2.size<=200):(evs num E).length<=iK E * 228:=by
 induction E with
 |nil=>simp[evs]
 |cons e E O=>
  have C:=O λx Z=>h x (cI _ Z);have J:=h e cJ;simp only[evs,List.flatMap_cons,aK,aV,UH]at *;omega
noncomputable def Ct(num:Int)(q:gU)(T:List Tl):List Int->List uo->List (gT)×List uo
 |[],ks=>([],ks)
 |k::r,ks=>(evs num (En k q T ks).1::(Ct num q T r (En k q T ks).2).1,(Ct num q T r (En k q T ks).2).2)
def Vd(num q T l k)(g:gZ):Ct num q T (l++[k]) g=((Ct num q T l g).1++[evs num (En k q T (Ct num q T l g).2).1],(En k q T (Ct num q T l g).2).2):=by
 induction l generalizing g with
 |nil=>simp[Ct]
 |cons x l O=>simp[Ct,O]
def Qu(num q T l)(g:gZ):(Ct num q T l g).1.length=iK l:=by
 induction l generalizing g with
 |nil=>simp[Ct]
 |cons x l O=>simp[Ct,O]
def Rk{q}:∀{T} {g:gZ},∀e∈(En s q T g).1,∃x∈T,e=(x.2.2,Mt q x.2.1)
 |[],g,e,h=>by simp[En]at h
 |x::T,g,e,h=>by
  unfold En at h;split at h
  ·rcases bH.1 h with rfl|h
   ·grind
   ·have ⟨y,U,e⟩:=Rk e h
    grind
  ·have ⟨y,U,e⟩:=Rk e h
   grind
def Rj{s q}:∀{T} {ks:gZ},(En s q T ks).1.length<=iK T
 |[],ks=>by simp[En]
 |x::T,ks=>by
  unfold En;split
  ·exact Nat.succ_le_succ Rj
  ·exact Nat.le_succ_of_le Rj
def Rl{q}:∀{T} {g:gZ},(En s q T g).2.Sublist g
 |[],g=>by simp[En]
 |x::T,g=>by
  unfold En;split
  ·exact(Rl ).trans List.filter_sublist
  ·exact Rl
def Qv{num q T}:∀{l} {ks:gZ},(Ct num q T l ks).2.Sublist ks
 |[],ks=>by simp[Ct]
 |k::l,ks=>by
  exact(Qv (l:=l)).trans Rl
end
def Ec:Loc->Prop:=λ_=>False
structure JIn(J:gW)(N cb)(ob pg:hY):Prop where
 obj:∀r,¬J (.obj r)
 old:∀a,J (.cell a)->a.block<N/\a.block≠cb/\ob≠lj a.block/\pg≠lj a.block
def JIn.new{J cb ob pg}(h:JIn J N cb ob pg)(V:N<=i)(j):¬J (.cell (iD i j)):=λl=>by have:=(h.old _ l).1;simp at this;omega
def JIn.cb{J cb ob pg}(h:JIn J N cb ob pg)(j):¬J (.cell (iD cb j)):=λl=>(h.old _ l).2.1 iI
def JIn.ob{J cb ob pg}(h:JIn J N cb ob pg)(V:ob=lj i)(j):¬J (.cell (iD i j)):=λl=>(h.old _ l).2.2.1 V
def JIn.pg{J cb ob pg}(h:JIn J N cb ob pg)(V:pg=lj i)(j):¬J (.cell (iD i j)):=λl=>(h.old _ l).2.2.2 V
structure Fc(v cb co bsl st u):Prop where
 K:Ax v u iH
 size:iL u.1=iL v.1+5
 b0:u.1[iL v.1]?=lj (oh #[pdw (lj (iD cb co))] 117)
 b1:u.1[iL v.1+1]?=lj (oh #[bsl] 37)
 b2:u.1[iL v.1+2]?=lj (.chan 0 #[] sd 0 0 sd)
 b3:u.1[iL v.1+3]?=lj (oh #[.chan (lj (iL v.1+2))] 118)
 b4:u.1[iL v.1+4]?=lj (JK 128 st 0)
def Fc.at{v cb B a}(h:Fc v cb U B a u)(d):Fc v cb U B a (u.at d):=⟨h.K.at d,h.size,h.3,h.4,h.b2,h.6,h.b4⟩
def yE(cb co N:Nat)(bsl clo x15 x16:uo)(i:Nat):uo:=([pdw (lj (iD cb co)),bsl,clo,iB N,pdw (lj ⟨N+1,0,jh⟩),qp,gd sd,pdw (lj ⟨N+3,0,jh⟩),pdw (lj ⟨N+4,0,jh⟩),qp,pdw (lj (iD cb co)),pdw (lj (iD cb co)),pdw (lj ⟨cb,co+1,jh⟩),gd sd,.chan (lj (N+2)),x15,x16,qp,qp,qp,qp,qp,qp,qp,qp,qp,qp,qp,qp,qp]:gZ).getD i qp
noncomputable def r5:Code:=Code.one (Code.two (Code.two (Code.two (Code.two J7))))
noncomputable def Y3:Code:=Code.two (Code.two (Code.two (Code.two (Code.two J7))))
noncomputable def X7:Array ox:=Code.opsOf r5
def Ajk:∃d,prog.underlying 118=lj (.chan d 37):=⟨_,underlying118⟩
def Ac5:=Option.isSome_iff_exists.1 (by kernel_rfl:(prog.info? 37).isSome=km)
def Aoh(w):(Instr.makeChan 118 (iE 0)).run y7 w=.ok (.chan (lj w.1.size)) (w.alloc (.chan 0 #[] sd 0 0 sd)):=by
 have ⟨d,y⟩:=Ajk;have ⟨b,V⟩:=Ac5;exact run_makeChan y V gh 0 Aa Aa
def Ak8(w X):(Instr.makeChan 118 (iE 0)).events y7 w X=X:=by
 have ⟨d,y⟩:=Ajk;have ⟨b,V⟩:=Ac5;exact events_makeChan y V gh 0 Aa Aa X
def alz(w:gk)(o):(w.alloc o).1.size=iL w.1+1:=Ad
def alk(w o):Ax w (w.alloc o) iH:=Ax.of_below (Bf _ _) (aC _)
def Ax.get{o}(h:Ax w B X)(V:w.1[i]?=lj o)(Z:¬X i):=(h.block i (ltOf V) Z).trans V
section
variable {cb bl cap:Nat} {ba:hU} {clo:uo}
def VA(l):¬Ec l:=λh=>h
set_option maxRecDepth 100000 in
def XG(g:v.cell? ⟨cb,co+1,jh⟩=lj (gd sd))(i:∀u,Fc v cb co (qh ba bl cap) 0 u->EV y7 km Ec F (G ((base 46).at (Ke (yE cb co v.1.size (qh ba bl cap) clo qp qp)) [.inRegion X7 [0],.code Y3]) (fr::cs)) u):EV y7 km Ec F (G ((base 46).at { tmps:=#[pdw (lj (iD cb co)),qh ba bl cap,clo]++Array.replicate 27 qp,defers:=[] } [.code J7]) (fr::cs)) v:=by
 have Y:cb<iL v.1:=by
  exact Tdr
 simp only[dE,dO,eJ,dV,bW,cK];simp only[J7,f46,aY];apply EV.seqC;refine EV.piece (fn:=46) iI iI (Pc (Q:=λe c O=>e=.normal/\c = { tmps:=#[pdw (lj (iD cb co)),qh ba bl cap,clo,iB v.1.size,pdw (lj ⟨iL v.1+1,0,jh⟩),qp,gd sd,qp,qp,qp,qp,qp,qp,qp,qp,qp,qp,qp,qp,qp,qp,qp,qp,qp,qp,qp,qp,qp,qp,qp],defers:=[] }/\O=(v.alloc (oh #[pdw (lj (iD cb co))] 117)).alloc (oh #[qh ba bl cap] 37)) ?_) ?_
 ·simp only[bD,aV,aW,Nat.reduceAdd,aX,yo,zpm];apply Dk (#[Value.pointer (lj (iD cb co))]) 117;walk_nrm;apply Cy (S:=env Lv) iI Ac (B7 Ab) (A6 _ _) (x:=pdw (lj ⟨iL v.1+1,0,jh⟩)) (v':=(v.alloc (oh #[pdw (lj (iD cb co))] 117)).alloc (oh #[qh ba bl cap] 37)) (λd=>r7 (by walk_nrm;go_simp;exact⟨alz _ _,iI⟩)) Amj;walk_nrm;refine V2g ?_;exact Au ⟨iI,iI,iI⟩
 rintro e m Z⟨rfl,rfl,rfl⟩;generalize y:(v.alloc (oh #[pdw (lj (iD cb co))] 117)).alloc (oh #[qh ba bl cap] 37)=Z;have b:iL Z.1=iL v.1+2:=by rw[←y,alz,alz]
 have a:Ax v Z iH:=by rw[←y];exact(Ba v _ _ _).trans (Ba _ _ _ _)
 have x:Z.1[iL v.1]?=lj (oh #[pdw (lj (iD cb co))] 117):=by rw[←y];exact(alk _ _).get (iw _ _) λh=>h
 have P:Z.1[iL v.1+1]?=lj (oh #[qh ba bl cap] 37):=by rw[←y,←alz v (oh #[pdw (lj (iD cb co))] 117)];exact iw _ _
 clear y;refine EV.seqC (EV.seqC ?_);refine EV.piece (fn:=46) iI iI (Pc (Q:=λe c O=>e=.normal/\c = { tmps:=#[pdw (lj (iD cb co)),qh ba bl cap,clo,iB v.1.size,pdw (lj ⟨iL v.1+1,0,jh⟩),qp,gd sd,qp,qp,qp,pdw (lj (iD cb co)),pdw (lj (iD cb co)),pdw (lj ⟨cb,co+1,jh⟩),gd sd,qp,qp,qp,qp,qp,qp,qp,qp,qp,qp,qp,qp,qp,qp,qp,qp],defers:=[] }/\O=Z) ?_) ?_
 ·simp only[bD,aV,aW,Nat.reduceAdd,aX,yo,zpm];apply Bp (cellOf (j:=0) x iI) (VA _);walk_nrm;refine Wad ?_;refine Bp ((Cg (a.block cb Y λh=>h)).trans g) (VA _) ?_;walk_nrm;exact Au ⟨iI,iI,iI⟩
 rintro e m B⟨rfl,rfl,rfl⟩;refine EV.condC (t:=sd) iI ?_;simp only[bR,aR];refine EV.skipC (EV.seqC ?_);have I:(B.alloc (.chan 0 #[] sd 0 0 sd)).1.size=iL v.1+3:=by rw[alz,b]
 refine EV.regionC ?_;simp only[bD,aV,aW,Nat.reduceAdd,aX,yo,zpm];refine EV.opRob iI iI Ac λd=>⟨.chan (lj (B.at d).1.size),(B.at d).alloc (.chan 0 #[] sd 0 0 sd),Alr (λn J=>?_) (r7 ?_) ?_,?_⟩
 ·have h:=El (P:=y7) (n:=n) (NQ 118 (iE 0));have e:Az n (iE 0)=iE 0:=Ad
  rwa[e]at h
 ·have h:=Aoh (B.at d);go_simp
 ·have h:=Ak8 (B.at d);intro e N;simp[go_sem,h]at N
 walk_nrm;generalize l:(B.at d).alloc (.chan 0 #[] sd 0 0 sd)=E;have z:iL E.1=iL v.1+3:=by rwa[←l]
 have j:Ax B E iH:=by rw[←l];exact(alk (B.at d) _).ofAt
 have b2:E.1[iL v.1+2]?=lj (.chan 0 #[] sd 0 0 sd):=by
  have h:=iw (B.at d) (.chan 0 #[] sd 0 0 sd);rw[l]at h;have D:(B.at d).1.size=iL v.1+2:=b
  rwa[D]at h
 have D:(B.at d).1.size=iL v.1+2:=b;rw[D];clear l;refine EV.opEv (S:=env Lv) (fn:=46) iI iI Ac (B7 Ab) (A6 _ _) (x:=pdw (lj ⟨iL v.1+3,0,jh⟩)) (v':=World.alloc E (oh #[.chan jh] 118)) (λd=>r7 (by walk_nrm;go_simp;exact⟨z,iI⟩)) Amj ?_;walk_nrm;have p:(E.alloc (oh #[.chan jh] 118)).1.size=iL v.1+4:=by rw[alz,z]
 have K:(E.alloc (oh #[.chan jh] 118)).1[iL v.1+3]?=lj (oh #[.chan jh] 118):=by rw[←z];exact iw _ _
 have W:Ax E (E.alloc (oh #[.chan jh] 118)) iH:=Ba _ _ _ _;generalize E.alloc (oh #[.chan jh] 118)=k at p K W⊢;refine EV.opEv (S:=env Lv) (fn:=46) iI iI Ac (B7 Ab) (A6 _ _) (x:=qp) (v':=k.setCell ⟨iL v.1+3,0,jh⟩ (.chan (lj (iL v.1+2)))) (λd=>kr ⟨by have M:=(show ur (k.at d) ⟨iL v.1+3,0,jh⟩=_ from cellOf (j:=0) K iI);have L:=(show World.frozen? (k.at d) ⟨iL v.1+3,0,jh⟩=sd from Dm (j:=0) K);walk_nrm;go_simp;first|done|rfl,rfl⟩) (λd e N=>Cl (VA _)) ?_;walk_nrm;have w:(k.setCell ⟨iL v.1+3,0,jh⟩ (.chan (lj (iL v.1+2)))).1.size=iL v.1+4:=by rwa[size_setCell]
 have f:=Et k (iL v.1+3) 0 (.chan (lj (iL v.1+2)));have q:(k.setCell ⟨iL v.1+3,0,jh⟩ (.chan (lj (iL v.1+2)))).1[iL v.1+3]?=lj (oh #[.chan (lj (iL v.1+2))] 118):=by rw[heap_setCell,aL iI,K];rfl
 generalize k.setCell ⟨iL v.1+3,0,jh⟩ (.chan (lj (iL v.1+2)))=s at w f q⊢;refine EV.regionEnd (EV.seqC (EV.regionC ?_));simp only[bD,aV,aW,Nat.reduceAdd,aX,yo,zpm];refine EV.opEv (S:=env Lv) (fn:=46) iI iI Ac (B7 Ab) (A6 _ _) (x:=pdw (lj ⟨iL v.1+4,0,jh⟩)) (v':=World.alloc s (JK 128 0 0)) (λd=>r7 (by walk_nrm;go_simp;exact⟨w,iI⟩)) Amj ?_;walk_nrm;refine EV.regionEnd (EV.seqC (EV.regionC ?_));have C:Ax s (s.alloc (JK 128 0 0)) iH:=alk _ _;have t:Ax E (s.alloc (JK 128 0 0)) (· = iL v.1+3):=((W.mono λ_ h=>h.elim).trans f).trans (C.mono λ_ h=>h.elim);have r:Ax B (s.alloc (JK 128 0 0)) (· = iL v.1+3):=(j.mono λ_ h=>h.elim).trans t;have H:Ax v (s.alloc (JK 128 0 0)) (· = iL v.1+3):=(a.mono λ_ h=>h.elim).trans r;refine i _ ⟨⟨H.os,H.tape,H.output,H.size,λA V _=>H.block A V Aa⟩,by rw[alz,w],r.get x Aa,r.get P Aa,t.get b2 Aa,C.get q λh=>h,?_⟩;rw[←w];exact iw _ _
end
section
variable {J:gW} {k:Bool}
def LY{f}(I:f∈Lv)(W:VW J c u){args:gY}{R:iA}(t:∀r,J (.obj r)->¬X r)(H:∀v,X4 c u v->Calls y7 f args v λe B=>(∃x,e=.returned x/\R x B)/\Ax v B X):Bg y7 k J F f args u λx O=>Ax u O X/\VW J c O/\∃U,(∀i,¬c i->U.1[i]?=O.1[i]?)/\iL U.1=iL O.1/\(∀a:Addr,c a.block->U.cell? a=jh)/\R x U:=by
 refine Bq (Na Ald (show f∈Lv from I) W.rows W.blind W.low (A6 _ _) (R:=λe B=>∃v,X4 c u v/\(∃x,e=.returned x/\R x B)/\Ax v B X) (λj v h=>?_) (λv h=>?_) (λv s=>(H v s).mono λe B h=>⟨v,s,h⟩)) ?_
 ·grind
 ·grind
 ·rintro x O⟨y,U,rfl,g,C,E,v,s,⟨z,e,b⟩,p⟩;cases e;have K:=O3 s g C p E;refine⟨K,W.kx (λi V=>Dy g V) (λr Y=>K.block r (W.low.obj r Y) (t r Y)),U,λi D=>Rb g C D,by rw[Bh,C.1],λa d=>?_,b⟩;have:=Yi g d;unfold ur at this⊢
  rwa[C.1]
def Vh{L}(s:∀i,¬c i->L.1[i]?=u.1[i]?)(N:iL L.1=iL u.1)(y:∀a:Addr,c a.block->L.cell? a=jh){l lv}(h:D8 L (λb=>b<iL L.1) l lv):VsB c u l lv:=by
 induction h with
 |nil a d=>exact .nil a d
 |row ps g I F C H M Y O=>
  have U:¬c g:=λk=>by
   cases ps with
   |nil=>exact F iI
   |cons p ps=>
    have:=M 0 (iE p.1.n) (by simp[Eo])
    grind
  exact .row ps g I F C ⟨N▸H,U⟩ (λj e f=>(Cg (s g U)).symm.trans (M j e f)) O
def putN(w:gk)(nb:Nat)(x:Nd):gk:=(((((w.setCell (iC nb) (pc x.path)).setCell (iD nb 1) (pc x.data)).setCell (iD nb 2) (pc x.note)).setCell (iD nb 3) (iE x.made)).setCell (iD nb 4) (iE x.changed)).setCell (iD nb 5) (iE x.version)
def VW.putN(W:VW J c w)(V x):VW J c (putN w V x):=(((((W.set _ _ _).set _ _ _).set _ _ _).set _ _ _).set _ _ _).set _ _ _
end
section
variable {Y:E2} {J:gW} {cb:Nat} {X:qq}
def Fc.set(j:Fc v cb U o 0 u):Fc v cb U o KK (u.setCell ⟨iL v.1+4,0,jh⟩ (uu .u64 KK)):=by
 have K:=Et u (iL v.1+4) 0 (uu .u64 KK);refine⟨⟨K.os.trans j.K.os,K.tape.trans j.K.tape,K.output.trans j.K.output,aE j.K.size K.size,λk V Z=>(K.block k (aA V j.K.size) Aa).trans (j.K.block k V Z)⟩,by rw[Go.Pair.size_setCell];exact j.size,K.get j.3 Aa,K.get j.4 Aa,K.get j.b2 Aa,K.get j.6 Aa,?_⟩;rw[heap_setCell,aL iI,j.b4]
 rfl
def Pu(N:Nat):uo:=.func (.func 62) #[] #[pdw (lj ⟨N+4,0,jh⟩),pdw (lj ⟨N+3,0,jh⟩),iB N,pdw (lj ⟨N+1,0,jh⟩)]
def U3(n y k)(E:k.map (Df n)=k)(z):Bn n (G ((base 46).at (Ke y) k) z)=G ((base 46).at (Ke λi=>Az n (y i)) k) (z.map (Bj n)):=by
 rw[Ep,Gn,Ys,E]
set_option maxRecDepth 100000 in
def Ab4(E:∀j,¬J (.cell ⟨iL v.1+4,j,jh⟩))(hF:Fc v cb U o 0 u)(F:∀d,EN y7 Y J (G ((base 46).at (Ke (yE cb U v.1.size o a (js #[]) qp)) [.inRegion X7 [],.code Y3]) (X::cs)) ((u.setCell ⟨iL v.1+4,0,jh⟩ (uu .u64 KK)).at d)):EN y7 Y J (G ((base 46).at (Ke (yE cb U v.1.size o a qp qp)) [.inRegion X7 [0],.code Y3]) (X::cs)) u:=by
 intro n w p b H;have c:Dx 128 (Q n (iL v.1+4)) w 0 0:=by
  have:=b.row hF.b4 Ad E;unfold Dx;rw[this];simp[JK]
 have f:Bn (.up u.1.size) (G ((base 46).at (Ke (yE cb U v.1.size o a (js #[]) qp)) [.inRegion X7 [],.code Y3]) (X::cs))=G ((base 46).at (Ke (yE cb U v.1.size o a (js #[]) qp)) [.inRegion X7 [],.code Y3]) (X::cs):=by
  have h:=b.wf.2;rw[U3 _ _ _ iI]at h⊢;have S:(X::cs).map (Bj (.up u.1.size))=X::cs:=aJ jzb h;have L:(Ke λi=>Az (.up u.1.size) (yE cb U v.1.size o a qp qp i)).tmps=(Ke (yE cb U v.1.size o a qp qp)).tmps:=aJ (λg:vr=>g.frame.tmps) h;rw[S]
  congr 2
  simp[Ke,yE]at L⊢;simp[L]
 have s:=Vi (w:=u) 0 hF.b4;rw[U3 _ _ _ iI];refine Ab6 (Wg:=Q n (iL v.1+4)) (Ret:=Bn n (G ((base 46).at (Ke (yE cb U v.1.size o a (js #[]) qp)) [.inRegion X7 [],.code Y3]) (X::cs))) (Hh c) (λB r=>?_) (n:=100+1) ?_
 ·obtain⟨d,rfl⟩:=r;have m:=(b.setCell (x:=uu .u64 KK) s Ad f).at d;have e:Az n (uu .u64 KK)=uu .u64 KK:=Ad;rw[e]at m;refine F d n _ p m ⟨λl h=>by
   have:=H.low l h;have D:((w.setCell (Ga (Q n (iL v.1+4))) (uu .u64 KK)).at d).1.size=iL w.1:=Go.Pair.size_setCell _ _ _
   rwa[D],H.blk,H.off,(H.kept.frame (Gd w ⟨Q n (iL v.1+4),0,jh⟩ (uu .u64 KK) km) λe N _=>?_).at d,λi V=>⟨(H.nn i V).1,by
   have D:((w.setCell (Ga (Q n (iL v.1+4))) (uu .u64 KK)).at d).1.size=iL w.1:=Go.Pair.size_setCell _ _ _;rw[D];exact(H.nn i V).2⟩⟩
  simp at N;subst N;exact(b.own (.cell ⟨iL v.1+4,0,jh⟩) ⟨_,s⟩ (E 0)).2
 ·refine Goes.step iI λK r=>goes_call (f:=61) (fn:=Lib.addFn Tryz.link) (c:=Qy Tryz.link) iI Ac Ae iI Tryz.wgLib.1 Ac Ac ⟨⟨iI,iI⟩,?_⟩;have e:Array.map (Ke λi=>Az n (yE cb U v.1.size o a qp qp i)).eval #[Operand.tmp 8,Operand.const (Value.int IntKind.i64 1)]=#[pdw (lj ⟨Q n (iL v.1+4),0,jh⟩),iE 1]:=by simp[euo,Ke,yE,Ei]
  rw[e];have y:=Ajw Tryz.wgLib (d:=Q n (iL v.1+4)) (g:=base 46) (f:=Ke λi=>Az n (yE cb U v.1.size o a qp qp i)) (a:=X7) (j:=0) (c:=[]) (k:=[.code Y3]) (cs:=(X::cs).map (Bj n)) K (A7 c r);have L:Bn n (G ((base 46).at (Ke (yE cb U v.1.size o a (js #[]) qp)) [.inRegion X7 [],.code Y3]) (X::cs))=G ((base 46).at ((Ke λi=>Az n (yE cb U v.1.size o a qp qp i)).put ((X7[0]?).bind (·.dst)) (js #[])) (.inRegion X7 []::[.code Y3])) ((X::cs).map (Bj n)):=by
   rw[U3 _ _ _ iI]
   congr 2
   simp[Ke,yE]
   rfl
  rwa[L]
set_option maxRecDepth 100000 in
def Agz{b:vr->gk->Prop}(h:∀d,b (G ((base 46).at (Ke (yE cb U v.1.size o a (js #[]) (Pu v.1.size))) [.inRegion MO [1],.code Vo]) (X::cs)) (u.at d)):EV y7 km J b (G ((base 46).at (Ke (yE cb U v.1.size o a (js #[]) qp)) [.inRegion X7 [],.code Y3]) (X::cs)) u:=by
 apply EV.regionEnd;refine EV.seqC (EV.regionC (ops:=MO) ?_);simp only[MO,r6,Code.opsOf,Code.one,Code.two,J7,f46,aY,Ke,yE];apply EV.opPure (S:=env Lv) (fn:=46) (x:=Pu v.1.size) iI iI Ac (B7 Ab) (A6 _ _) Amt Amt;exact EV.stop h
end
open Go.Maps
def Gy{a size v}{X:gZ}(h:w.ownsRow a e size v n X)(E:∀g,a<=g->g<iL w.1->B.1[g]?=w.1[g]?):B.ownsRow a e size v n X:=by
 obtain⟨F,C|⟨g,I,H,C,J,T,q⟩⟩:=h
 ·exact⟨F,r7 C⟩
 ·exact⟨F,kr ⟨g,I,H,C,J,Aj,q⟩⟩
def RN{b a size x}{X:gZ}(h:w.ownsRow b e size x n X)(D:a<=b):w.ownsRow a e size x n X:=by
 obtain⟨F,C|⟨g,I,H,C,J,T⟩⟩:=h
 ·exact⟨F,r7 C⟩
 ·exact⟨F,kr ⟨g,I,H,C,aE D J,T⟩⟩
abbrev ints(zs:List Int):List uo:=zs.map λz=>iE z
abbrev E0(ss:List (Int×Nat)):List (uo×uo):=ss.map λq=>(iE q.1,iB q.2)
section
variable {J:gW} {Stop:vr->gk->Prop}
structure BU(J Bs u)(bx bl l it sm:Nat)(lo ss zs R w):Prop where
 kept:Ax u w iH
 W:VW J Bs w
 loop:Fe w l lo
 dfr:w.1[bl]?=lj (.deferred (lj []))
 rng:Ic w sm it (E0 ss) (E0 R)
 box:∃sv,w.1[bx]?=lj (oh #[sv] 23)/\w.ownsRow (it+1) 3 1 sv (iK zs) (ints zs)
def BU.at{W a sm s ss V}(H:BU J Bs u W y l a sm s ss V R w)(d):BU J Bs u W y l a sm s ss V R (w.at d):=⟨H.kept.at d,H.W.at d,H.loop,H.4,H.5.keep iI iI,H.box⟩
def MD{a b:Type}[DecidableEq a](f:a->b):∀{l} {Z},l.Perm (Z.map f)->∃c:List a,l=c.map f/\c.Perm Z
 |[],Z,h=>by
  simp_all
 |p::l,Z,h=>by
  obtain⟨q,d,rfl⟩:=aZ.1 (h.mem_iff.1 cJ);have C:=List.perm_cons_erase d;obtain⟨c,rfl,T⟩:=MD f ((h.trans (C.map f)).cons_inv);exact⟨q::c,iI,(T.cons q).trans C.symm⟩
def SQ{p i}(h:(p::i).Perm (E0 R)):∃q f,p=(iE q.1,iB q.2)/\i=E0 f/\(q::f).Perm R:=by
 have ⟨Z,a,b⟩:=MD _ h;cases Z with
 |nil=>cases a
 |cons q Z=>
  grind
section
variable {k:Bool} {v':gk} {a:gY} {j:List Item} {g:Array ox} {b:hZ} {o:ox} {x:uo} {S:Env}
def EV.ropP(O:g[i]?=lj o)(W:qy o (yielded g a)=km)(y:∀c,o.op≠.defer c)(V:Oi P S f o)(e:S.reg f a)(Y:∀w,(execOp (rev a).eval o).run P w=.ok (.value x) w)(N:∀w,(execOp (rev a).eval o).events P w #[]=#[])(h:EV P k J Stop (G (Le l f (He o.dst x a) (.inRegion g b::j)) cs) v):=
 EV.ropR O W y λd=>⟨x,v.at d,Rh V e Y N,EV.at h d⟩
def EV.ropE(O:g[i]?=lj o)(W:qy o (yielded g a)=km)(y:∀c,o.op≠.defer c)(V:Oi P S f o)(e:S.reg f a)(Y:∀d,Go.Pair.Yields P (execOp (rev a).eval o) (v.at d) x (v'.at d))(N:∀d,∀h∈(execOp (rev a).eval o).events P (v.at d) #[],Ff J h)(m:EV P k J Stop (G (Le l f (He o.dst x a) (.inRegion g b::j)) cs) v'):=
 EV.ropR O W y λd=>⟨x,v'.at d,Qo V e (Y d) (N d),EV.at m d⟩
end
def EV.ropL{b}{a:gY}{k g}{c:hZ}{o S}(W:VW J Bs v)(O:g[i]?=lj o)(w:qy o (yielded g a)=km)(y:∀d,o.op≠.defer d)(V:Oi y7 S f o)(j:S.reg f a){R:iA}{X}(t:∀r,J (.obj r)->¬X r)(H:∀L,X4 Bs v L->∃x p,Go.Pair.Yields y7 (execOp (rev a).eval o) L x p/\R x p/\Ax L p X)(F:∀x U p,Ax v U X->VW J Bs U->(∀i,¬Bs i->p.1[i]?=U.1[i]?)->iL p.1=iL U.1->R x p->EV y7 b J Stop (G (Le l f (He o.dst x a) (.inRegion g c::k)) cs) U):EV y7 b J Stop (G (Le l f a (.inRegion g (i::c)::k)) cs) v:=λQ=>
 EV.ropR O w y (λh=>by
  have ⟨x,u,C,e,T,L,s,q,z⟩:=AR V j W.rows W.blind W.low (R:=λx p=>∃L,X4 Bs v L/\R x p/\Ax L p X) (λL s=>let⟨x,p,m,A,B⟩:=H L s;⟨x,p,m,L,s,A,B⟩) h Q;have K:=O3 s e (.refl u) z T;exact⟨x,_,C,F x _ u K (W.kx (λi n=>Dy e n) λr Y=>K.block r (W.low.obj r Y) (t r Y)) (λi D=>(By D).symm) (by rw[Bh]) q⟩) Q
noncomputable def Abe:Code:=match f225.body with|some (.seq _ (.seq (.seq _ (.block _ (.rangeFunc _ _ c _))) _))=>c|_=>.skip
noncomputable def Abi:Code:=match f225.body with|some (.seq _ (.seq (.seq _ (.block _ (.rangeFunc _ _ _ c))) _))=>c|_=>.skip
noncomputable abbrev Ik(bx bl:Nat)(seq:uo):Loop:={ state:=.ready,pending:=jh,fn:=225,tmps:=#[qh jh 0 0,seq,iB bx,qp,qh jh 0 0,qp,seq,qp,qp,qp,qp,qp,qp],params:=#[7],assign:=Abe,body:=Abi,defers:=bl }
def rn:(∀(a:gY) i d,a.getD i d=a[i]?.getD d)/\(∀(l:gZ)(i:Nat),l.toArray[i]?=l[i]?)/\(∀(a:uo) l i,(a::l)[i+1]?=l[i]?)/\(∀(a:uo) l,(a::l)[0]?=lj a)/\(∀a d:uo,(lj a).getD d=a)/\(∀l:List uo,l.toArray.size=iK l)/\(∀(a:uo) l,(a::l).length=iK l+1)/\([]:gZ).length=0/\(∀(l:gZ) i a,l.toArray.setIfInBounds i a=(l.set i a).toArray)/\(∀(a:uo) l i b,(a::l).set (i+1) b=a::l.set i b)/\∀(a:uo) l b,(a::l).set 0 b=b::l:=by
 refine⟨?_,?_,?_,?_,?_,?_,?_,?_,?_,?_,?_⟩<;>intros<;>first|rfl|simp
def Fb(v r)(V:i≠l):(E4 v l r).1[i]?=v.1[i]?:=aD (dG V)
def AZ{v o}(h:v.1[l]?=lj o)(r):Fe (E4 v l r) l r:=aQ (ltOf h)
def VW.setL(W:VW J Bs w){l}(X:¬Bs l)(a:¬J (.obj l))(r):=
 W.kx (λi V=>Fb w r (λe=>by subst e;exact X V)) λi V=>Fb w r (λe=>by subst e;exact a V)
def Ax.setL(h:Ax w B X){l}(K:iL w.1<=l)(r):Ax w (E4 B l r) X:=
 ⟨h.os,h.tape,h.output,by rw[JE];exact h.size,λk E Z=>(Fb B r Aa).trans (h.block k E Z)⟩
def Tryz.info3:(prog.info? 3).map (λi=>(i.zero,i.size,i.bytes))=lj (lj (iE 0),1,8):=Ab
def AW(w a g d V z)(O:w.ownsRow a 3 1 d (iK V) (ints V))(G:w.1[g]?=lj (oh #[iE z] 3))(K:iK V<=100)(D:a<=iL w.1):∃t B,(Builtin.append_ #[23,23] 23 #[d,qh (lj (iC g)) 1 1]).run y7 w=.ok t B/\B.ownsRow a 3 1 t (V++[z]).length (ints (V++[z]))/\Ax w B (λi=>d.ownBlock=lj i):=by
 have ⟨b,c,v,W,f⟩:=info_parts Tryz.info3;have M:∀j(u:uo),([iE z]:gZ)[j]?=lj u->w.cell? (((iC g):Addr).add j)=lj u:=λj u r=>by
  cases j with
  |zero=>simp at r;subst r;exact cellOf G iI
  |succ j=>simp at r
 have ⟨U,B,Y,J,T,q⟩:=run_append_own w a 23 23 3 b _ 1 8 underlying23 c v W f iI Ae d (iK V) _ O (iC g) 1 1 [iE z] iI M (by intro u r;simp at r;subst r;rfl) Aga Aa D;refine⟨U,B,Y,by simpa[ints] using J,T.os,T.tape,T.output,T.size,λk E Z=>T.block k E λe=>Z e.symm⟩
def Ae1{W seq F V}(a)(ay:iL u.1<=W)(a6:iL u.1<=l)(az:W<j)(P:W≠l)(I:¬J (.obj l))(nl:¬Bs l)(ai:¬Bs W)(b5:l<j)(b6:sm<iL u.1)(b7:y<j)(a7:y≠l)(aj:y≠W)(e:BU J Bs u W y l j sm (Ik W y seq) F V R w)(f cs)(b8:iK V<=99)(a8:∀i,Bs i->i<iL u.1)(ak:∀B,Ax u B iH->VW J Bs B->Fe B l (Ik W y seq)->B.1[y]?=lj (.deferred (lj []))->Ic B sm j (E0 F) (E0 R)->(∃A,B.1[W]?=lj (oh #[A] 23)/\B.ownsRow (j+1) 3 1 A (V++[a]).length (ints (V++[a])))->EV y7 km J Stop (G (f.finish (gd km)) cs) B):EV y7 km J Stop (G (Le l 225 #[qh jh 0 0,seq,iB W,qp,qh jh 0 0,qp,seq,iE a,qp,qp,qp,qp,qp] [.code Abe,.beginRound,.code Abi]) (f::cs)) w:=by
 unfold Abe Abi;simp only[f225];apply AQ;refine O0v ?_;refine Qn ?_;refine EV.begin e.loop iI I λx=>?_;obtain⟨A,hb,O⟩:=e.box;have K:=(e.W.at x).setL nl I { Ik W y seq with state:=.busy };have n:=(e.kept.at x).setL a6 { Ik W y seq with state:=.busy };have L0:=AZ (v:=w.at x) e.loop { Ik W y seq with state:=.busy };have s:∀i,i≠l->(E4 (w.at x) l { Ik W y seq with state:=.busy }).1[i]?=w.1[i]?:=λi k=>Fb (w.at x) _ k;generalize E4 (w.at x) l { Ik W y seq with state:=.busy }=h at K n L0 s⊢;have b9:j+1<=iL h.1:=by
  obtain⟨_,_,_,_,_,_,_,_,z,_⟩:=e.5.ex;have:=ltOf ((s j Aa).trans z);omega
 have aa:=(s W P).trans hb;refine ZJ ?_;refine AQ ?_;simp only[He,rev,euo,rn,bD,aV,aW,Nat.reduceAdd,bK,bI,bG,yo,zpm,aX];have ab:¬J (.cell (iC W)):=λz=>ai (K.2 _ z);refine EV.ropE (S:=env Lv) iI Ac Ag8 (B7 Ab) (A6 _ _) (x:=A) (v':=h) (λd=>r7 (by have H:(h.at d).cell? (iC W)=lj A:=cellOf (j:=0) aa iI;simp only[He,rev,euo,rn,bD,aV,aW,Nat.reduceAdd,bK,bI,bG,yo,zpm,aX];go_simp)) (λd=>by have H:(h.at d).cell? (iC W)=lj A:=cellOf (j:=0) aa iI;simp only[He,rev,euo,rn,bD,aV,aW,Nat.reduceAdd,bK,bI,bG,yo,zpm,aX];intro av Y;simp[go_sem,H]at Y;subst Y;exact Cl ab) ?_;refine O0v ?_;refine EV.ropE (S:=env Lv) iI Ac Ag8 (B7 Ab) (A6 _ _) (x:=qh (lj (iC h.1.size)) 1 1) (v':=h.alloc (oh #[iE a] 3)) (λd=>r7 (by simp only[He,rev,euo,rn,bD,aV,aW,Nat.reduceAdd,bK,bI,bG,yo,zpm,aX];go_simp;first|done|rfl|exact⟨rfl,rfl⟩)) (λd=>by simp only[He,rev,euo,rn,bD,aV,aW,Nat.reduceAdd,bK,bI,bG,yo,zpm,aX];intro av Y;simp[go_sem]at Y) ?_;simp only[He,rev,euo,rn,bD,aV,aW,Nat.reduceAdd,bK,bI,bG,yo,zpm,aX];have b:=Ba h #[iE a] 3 iH;have S:=K.alloc #[iE a] 3;have ad:(h.alloc (oh #[iE a] 3)).1[iL h.1]?=lj (oh #[iE a] 3):=iw _ _;generalize h.alloc (oh #[iE a] 3)=v1 at b S ad⊢;have T:v1.ownsRow (j+1) 3 1 A (iK V) (ints V):=Gy (Gy O λr o _=>s r Aa) λr o L=>b.block r L id;have Jc:∀i,A.ownBlock=lj i->j+1<=i:=λi k=>by
  rcases T with⟨_,⟨rfl,_⟩|⟨r,ae,af,rfl,o,_⟩⟩
  ·cases k
  ·simp[yq]at k;omega
 have al:∀X,J (.obj X)->¬A.ownBlock=lj X:=λX hr z=>by
  obtain⟨ba,O,H⟩:=S.3 X hr;rcases T with⟨_,⟨rfl,_⟩|⟨r,ae,af,rfl,o,aq,_⟩⟩
  ·cases z
  ·exact Spo
 refine EV.ropL (S:=env Lv) (Bs:=Bs) S iI Ac Ag8 (B7 Ab) (A6 _ _) (X:=λi=>A.ownBlock=lj i) (R:=λt L'=>L'.ownsRow (j+1) 3 1 t (V++[a]).length (ints (V++[a]))) al (λan M=>?_) ?_
 ·obtain⟨t,B,hr,h1,h2⟩:=AW an (j+1) h.1.size A V a (Gy T λr o L=>M.same λN=>by have:=a8 r N;omega) ((M.same (λz=>by have:=K.lt z;omega)).trans ad) Aa (by rw[M.size];have:=b.size;omega);refine⟨t,B,r7 ?_,h1,h2⟩;simp only[He,rev,euo,rn,bD,aV,aW,Nat.reduceAdd,bK,bI,bG,yo,zpm,aX];unfold execOp;simp only[resolve,invoke,builtin,asz,Sem.run_pure,Result.andThen_ok,cG,bC,cM];simp only[He,rev,euo,rn,bD,aV,aW,Nat.reduceAdd,bK,bI,bG,yo,zpm,aX];rw[hr]
  rfl
 rintro t v L' g W2 ao bb ar;simp only[He,rev,euo,rn,bD,aV,aW,Nat.reduceAdd,bK,bI,bG,yo,zpm,aX];have ah:v.ownsRow (j+1) 3 1 t (V++[a]).length (ints (V++[a])):=Gy ar λr o _=>(ao r λN=>by have:=a8 r N;omega).symm
 have Q:∀i,i<j+1->i≠l->v.1[i]?=w.1[i]?:=λi k hl=>(g.block i (by have:=b.size;omega) (λz=>by have:=Jc i z;omega)).trans ((b.block i Aa id).trans (s i hl))
 have D:v.1[W]?=lj (oh #[A] 23):=(Q W Aa P).trans hb;obtain⟨C,p,U,rfl⟩:∃au E f,t=qh au E f:=by
  rcases ah with⟨_,⟨rfl,_⟩|⟨r,ae,af,rfl,_⟩⟩<;>exact⟨_,_,_,iI⟩
 refine EV.ropE (S:=env Lv) iI Ac Ag8 (B7 Ab) (A6 _ _) (x:=qp) (v':=v.setCell (iC W) (qh C p U)) (λd=>kr ⟨by have H:(v.at d).cell? (iC W)=lj A:=cellOf (j:=0) D iI;have a1:(v.at d).frozen? (iC W)=sd:=Dm (W:=v) (j:=0) D;simp only[He,rev,euo,rn,bD,aV,aW,Nat.reduceAdd,bK,bI,bG,yo,zpm,aX];go_simp;first|done|rfl,rfl⟩) (λd=>by have H:(v.at d).cell? (iC W)=lj A:=cellOf (j:=0) D iI;have a1:(v.at d).frozen? (iC W)=sd:=Dm (W:=v) (j:=0) D;simp only[He,rev,euo,rn,bD,aV,aW,Nat.reduceAdd,bK,bI,bG,yo,zpm,aX];intro av Y;simp[go_sem,H,a1,gog _ _ _ _ (qh _ _ _) lc2 iI,storedEv]at Y;subst Y;exact Cl ab) ?_;simp only[He,rev,euo,rn,bD,aV,aW,Nat.reduceAdd,bK,bI,bG,yo,zpm,aX];have m:Br v (v.setCell (iC W) (qh C p U)) W #[qh C p U] 23:=(Br.refl D).set 0 _;have W3:VW J Bs (v.setCell (iC W) (qh C p U)):=W2.set W 0 _;generalize v.setCell (iC W) (qh C p U)=c at m W3⊢;have q:∀i,i<iL v.1->i≠W->c.1[i]?=v.1[i]?:=λi k aw=>m.grown.block i k (λz=>aw (by cases z;rfl));have bc:j+1<=iL v.1:=by have:=b.size;have:=g.size;omega
 have L3:Fe c l { Ik W y seq with state:=.busy }:=(q l Aa (dG P)).trans ((g.block l (by have:=b.size;omega) (λz=>by have:=Jc l z;omega)).trans ((b.block l Aa id).trans L0));refine Qn (NU ?_);refine EV.endRound L3 I λZ=>?_;have ax:Ax u c iH:=by
  refine⟨m.grown.os.trans (g.os.trans (b.os.trans n.os)),m.grown.tape.trans (g.tape.trans (b.tape.trans n.tape)),m.grown.output.trans (g.output.trans (b.output.trans n.output)),aE (aE (aE n.size b.size) g.size) m.grown.size,λE hk _=>?_⟩;rw[q E (by have:=n.size;have:=b.size;have:=g.size;omega) Aa,Q E Aa Aa];exact e.kept.block E hk id
 refine ak _ ((ax.at Z).setL a6 _) ((W3.at Z).setL nl I _) (AZ (v:=c.at Z) L3 _) ?_ ?_ ⟨qh C p U,?_,?_⟩
 ·rw[Fb (c.at Z) _ a7]
  show c.1[y]?=_;rw[q y Aa aj,Q y Aa a7];exact e.4
 ·refine e.5.keep ?_ ?_
  ·rw[Fb (c.at Z) _ Aa]
   show c.1[sm]?=_;rw[q sm Aa Aa,Q sm Aa Aa]
  ·rw[Fb (c.at Z) _ Aa]
   show c.1[j]?=_;rw[q j Aa Aa,Q j Aa Aa]
 ·rw[Fb (c.at Z) _ P];exact m.blk
 ·refine Gy ah λr o L=>?_;rw[Fb (c.at Z) _ Aa];exact q r L Aa
def An1(A:gY)(v):((#[7]:Array Tmp).zip #[v]).foldl (λa x=>a.setIfInBounds x.1 x.2) A=A.setIfInBounds 7 v:=by
 simp
noncomputable def Anf:Code:=match f211.body with|some c=>c|none=>.skip
def Ahc(I:VW J Bs B)(c:∀k,Bs k->k<iL u.1)(A:Ax u B iH)(W y l sm Q seq F)(h8:iK F<=99)(ae:iL u.1<=W)(ai:iL u.1<=l)(b8:iL u.1<=y)(aj:W≠l)(an:y≠l)(aq:y≠W)(ar:sm<iL u.1)(m:¬Bs sm)(au:¬Bs Q)(d:Fe B l (Ik W y seq))(o:B.1[y]?=lj (.deferred (lj [])))(D:B.1[W]?=lj (oh #[qh jh 0 0] 23))(hm:Bi y7 3 B sm (E0 F))(Z:B.1[Q]?=lj (oh #[.map (lj sm)] 93)):Hp y7 km J Stop 211 Anf (λv a' z=>(v=.normal∨v=.ret)/\a'.defers = []/\∃it V,BU J Bs u W y l it sm (Ik W y seq) F V [] z/\V.Perm (F.map l9)/\W<it/\y<it/\l<it) ⟨#[.func (.yield l) #[] #[],iB Q,qp,qp,qp,qp,qp,qp,qp,qp,qp,qp,qp,qp],[]⟩ B:=by
 have x:¬J (.obj l):=λh=>by obtain⟨C,b,hc⟩:=I.3 l h;rw[show B.1[l]?=lj (.loop (Ik W y seq)) from d]at b;cases b;cases hc
 unfold Anf;simp only[f211];refine Wqw ?_;apply Bp (cellOf (j:=0) Z iI) (λh=>au (I.2 _ h));walk_nrm;refine Dw (S:=env Lv) I iI Ac (B7 Ab) (A6 _ _) (X:=λ_=>False) (R:=λq aa=>q=iB B.1.size/\Ic aa sm B.1.size (E0 F) (E0 F)) (λ_ _ h=>h) (λL s=>?_) ?_
 ·obtain⟨C,Y,N⟩:=Bi.rangeL (hm.of_block (s.same m)) underlying93;rw[s.size]at Y N;exact Oj2
 rintro q av aa af ak ax c7⟨rfl,ao⟩;walk_nrm;refine Ro8 ?_;have O:¬Bs B.1.size:=λh=>by have:=I.lt h;omega
 have H3:BU J Bs u W y l B.1.size sm (Ik W y seq) F [] F av:=by
  refine⟨A.trans af,ak,af.get d id,af.get o id,ao.keep (ax _ m).symm (ax _ O).symm,⟨_,af.get D id,iI,r7 ⟨iI,iI⟩⟩⟩
 have P:=ltOf D;have b2:=ltOf o;have G:l<iL B.1:=ltOf d;refine Dr ?_;refine Mv (n:=iK F) (I:=λn K w=>∃V R M j6 j7 j8 j9 a1 al am a6,n=iK R/\iK V+iK R<=99/\(V++R.map l9).Perm (F.map l9)/\K=⟨#[.func (.yield l) #[] #[],iB Q,qp,M,.map (lj sm),iB B.1.size,j6,j7,j8,j9,a1,al,am,a6],[]⟩/\BU J Bs u W y l B.1.size sm (Ik W y seq) F V R w) ?_ ⟨[],F,qp,qp,qp,qp,qp,qp,qp,qp,qp,iI,by simpa using h8,by rw[bW],iI,H3⟩;rintro n K w⟨V,R,M,j6,j7,j8,j9,a1,al,am,a6,rfl,b9,ab,rfl,H⟩;refine Wqw ?_;have aw:∀r,J (.obj r)->¬r=iL B.1:=λr Y h=>by
  obtain⟨C,b,_⟩:=I.3 r Y;have:=ltOf b;omega
 refine Dw (S:=env Lv) H.W iI Ac (B7 Ab) (A6 _ _) (X:=(· = iL B.1)) (R:=λq aa=>((R = []/\q=js #[gd sd]/\Ic aa sm B.1.size (E0 F) (E0 R))∨∃a i,(a::i).Perm R/\q=js #[gd km,iE a.1,iB a.2]/\Ic aa sm B.1.size (E0 F) (E0 i)/\∀q:gk,q.1[sm]?=aa.1[sm]?->q.1[iL B.1]?=aa.1[iL B.1]?->(Instr.entry (iB B.1.size)).run y7 q=.ok (js #[iE a.1,iB a.2]) q)) aw (λL s=>?_) ?_
 ·rcases Ic.next (P:=y7) (H.5.keep (s.same m) (s.same O)) 0 with⟨h0,Y⟩|⟨ba,R',ay,aa,Y,N,hg,bb,X⟩
  ·refine⟨js #[gd sd],L,r7 ?_,r7 ⟨(List.map_eq_nil_iff.1 h0),iI,H.5.keep (s.same m) (s.same O)⟩,Ax.refl _ _⟩;exact Ja7
  ·obtain⟨a,i,rfl,rfl,U⟩:=SQ ay;refine⟨_,aa,r7 ?_,kr ⟨a,i,U,iI,N,X⟩,Ax.of_grown hg (r7 iI)⟩;exact Ja7
 rintro q u4 L4 p ah T bc S;walk_nrm;have bd:iL B.1<iL w.1:=by
  obtain⟨_,_,_,_,_,_,_,_,h,_⟩:=H.5.ex;exact ltOf h
 have a7:Ax u u4 iH:=⟨p.os.trans H.kept.os,p.tape.trans H.kept.tape,p.output.trans H.kept.output,aE H.kept.size p.size,λa8 hk Z=>(p.block a8 (aA hk H.kept.size) (by have:=A.size;omega)).trans (H.kept.block a8 hk Z)⟩;obtain⟨f,az,b5⟩:=H.box;have ag:=p.get H.loop Aa;have D4:=p.get H.4 Aa;have B4:=p.get az Aa;have O4:u4.ownsRow (iL B.1+1) 3 1 f (iK V) (ints V):=Gy b5 λg hg j=>p.block g j Aa;rcases S with⟨rfl,rfl,ad⟩|⟨a,i,U,rfl,ad,X⟩
 ·refine Keu ?_;refine Aw ?_;refine A3 (t:=sd) Ac ?_;simp only[bQ,bR,aR];refine Lc ?_;simp only[A1,As,bQ];exact⟨r7 trivial,trivial,iL B.1,V,(⟨a7,ah,ag,D4,ad.keep (T _ m).symm (T _ O).symm,⟨f,B4,O4⟩⟩),by simpa using ab,P,b2,G⟩
 ·refine Keu ?_;refine Aw ?_;refine N5y ?_;refine K5o ?_;refine Dr ?_;refine Wqw ?_;refine Dw (S:=env Lv) ah iI Ac (B7 Ab) (A6 _ _) (X:=λ_=>False) (R:=λq aa=>q=js #[iE a.1,iB a.2]) (λ_ _ h=>h) (λL s=>?_) ?_
  ·refine⟨_,L,r7 ?_,iI,Ax.refl _ _⟩;unfold execOp;walk_nrm;simp only[asz,(X L ((s.same m).trans (T _ m).symm) ((s.same O).trans (T _ O).symm))]
   rfl
  rintro q u5 L5 t e cm cn rfl;walk_nrm;refine Wad ?_;refine Ro8 ?_;refine Wqw ?_;refine Wad ?_;have H5:BU J Bs u W y l B.1.size sm (Ik W y seq) F V i u5:=⟨a7.trans t,e,t.get ag id,t.get D4 id,(ad.keep (T _ m).symm (T _ O).symm).keep (t.block _ (by have:=p.size;have:=A.size;omega) id) (t.block _ (by have:=p.size;omega) id),⟨f,t.get B4 id,Gy O4 λg hg j=>t.block g j id⟩⟩;have bf:iK i+1=iK R:=by have:=U.length_eq;simpa using this
  refine RM (r:=Ik W y seq) (l:=l) (Post:=λz=>BU J Bs u W y l B.1.size sm (Ik W y seq) F (V++[a.1]) i z) iI Ac iI Ac H5.loop Ac x Ac (by first|rfl|(simp[Eh];done)|kernel_rfl) (λb6 b7 cs hn=>?_) ?_
  ·have bg:=Ae1 (J:=J) (Bs:=Bs) (Stop:=Stop) (seq:=seq) a.1 ae ai P aj x (λh=>by have:=c l h;omega) (λh=>by have:=c W h;omega) G ar b2 an aq (H5.at b6) b7 cs Aa c (λz h1 h2 h3 h4 h5 h6=>hn z ⟨h1,h2,h3,h4,h5,h6⟩);walk_nrm
   rwa[An1]
  ·intro z E;walk_nrm;refine Keu ?_;refine A3 (t:=sd) Ac ?_;simp only[bQ,bR,aR];refine B6 ?_;simp only[A1,As];refine⟨iK i,Aa,V++[a.1],i,_,_,_,_,_,_,_,_,_,iI,Ah,?_,iI,E⟩;rw[cB];exact((U.map l9).append_left V).trans ab
def PL(W:VW J Bs u)(sm Q F)(L:Bi y7 3 u sm (E0 F))(K:¬Bs sm)(b:u.1[Q]?=lj (oh #[.map (lj sm)] 93))(w:¬Bs Q)(I:iK F<=99):Bg y7 km J Stop 225 #[qh jh 0 0,.func (.func 211) #[] #[iB Q]] u λx O=>Ax u O iH/\VW J Bs O/\∃V,V.Perm (F.map l9)/\O.ownsRow u.1.size 3 1 x (iK V) (ints V):=by
 apply Y9 func225 Ac iI (R:=λS=>S.getD 4 qp) (λ_ _=>zx Ac _ _ _) (λ_ _=>vk3 Ac _ _);simp only[ntmps225,na,Nat.reduceAdd,Nat.reduceSub];refine Wqw ?_;apply Dk #[qh jh 0 0] 23;walk_nrm;refine Keu ?_;have X:=Ba u #[qh jh 0 0] 23 iH;have P:=W.alloc #[qh jh 0 0] 23;have M:(u.alloc (oh #[qh jh 0 0] 23)).1[iL u.1]?=lj (oh #[qh jh 0 0] 23):=iw _ _;have q:(u.alloc (oh #[qh jh 0 0] 23)).1.size=iL u.1+1:=Ad;generalize u.alloc (oh #[qh jh 0 0] 23)=Z at X P M q⊢;refine Mk2 ?_;refine Keu ?_;refine Dr ?_;have m:∀r,iL Z.1<=r->¬J (.obj r):=λr Y h=>by obtain⟨s,c,_⟩:=P.3 r h;have:=ltOf c;omega
 refine DC (h:=211) (cap:=#[iB Q]) (λa=>∃l V,BU J Bs u u.1.size Z.1.size (iL Z.1+1) l sm (Ik u.1.size Z.1.size (.func (.func 211) #[] #[iB Q])) F V [] a/\V.Perm (F.map l9)/\iL u.1<l/\iL Z.1<l/\iL Z.1+1<l) Ac Ac func211 Ac iI (λ_ _=>results_none Ac _ _ _) (λ_ _=>events_results_none Ac _ _) (λd=>?_) (m _ Aa) ?_
 ·simp only[ntmps211,na,Nat.reduceAdd,Nat.reduceSub];have e:Ax Z { Z.at d with heap:=(Z.1.push (.deferred (lj []))).push (.loop (Ik u.1.size Z.1.size (.func (.func 211) #[] #[iB Q]))) } iH:=⟨rfl,rfl,rfl,Ah,λk E _=>by
   grind⟩
  exact Ahc (P.ofK e (λ_ _ h=>h) λ_ _ h=>h) (λi j=>W.lt j) (X.trans e) u.1.size Z.1.size (iL Z.1+1) sm Q _ F Aa (aC _) Aa Aa Aa Aa Aa L.lt K w (by show((Z.1.push _).push _)[iL Z.1+1]?=_;grind) Aj (e.get M id) ((L.of_block (X.block _ L.lt id)).of_block (e.block _ (by have:=L.lt;omega) id)) (e.get (X.get b id) id)
 ·rintro a⟨l,V,H,n,C,v,T⟩;refine⟨_,H.loop,iI,iI,λd=>?_⟩;simp only[As,A1];obtain⟨y,D,c⟩:=H.box;have o:¬Bs (iL Z.1+1):=λh=>by have:=P.lt h;omega
  have f:=(H.W.at d).setL o (m _ Aa) { Ik u.1.size Z.1.size (.func (.func 211) #[] #[iB Q]) with state:=.exhausted };have B:=(H.kept.at d).setL (l:=iL Z.1+1) Aa { Ik u.1.size Z.1.size (.func (.func 211) #[] #[iB Q]) with state:=.exhausted };have t:∀i,i≠iL Z.1+1->(E4 (a.at d) (iL Z.1+1) { Ik u.1.size Z.1.size (.func (.func 211) #[] #[iB Q]) with state:=.exhausted }).1[i]?=a.1[i]?:=λi j=>Fb (a.at d) _ j;generalize E4 (a.at d) (iL Z.1+1) { Ik u.1.size Z.1.size (.func (.func 211) #[] #[iB Q]) with state:=.exhausted }=p at f B t⊢;refine Wqw ?_;refine Bp (cellOf (j:=0) ((t u.1.size Aa).trans D) iI) (λh=>by have:=W.lt (W.2 _ h);simp at this) ?_;walk_nrm;refine Keu ?_;refine Dt ⟨kr iI,iL Z.1,iI,((t Z.1.size Aa).trans H.4),m _ (aC _),λz=>⟨⟨B.os,B.tape,B.output,by simp only[Array.size_setIfInBounds];exact B.size,λk E b=>?_⟩,f.kx (λi j=>?_) (λi j=>?_),V,n,?_⟩⟩
  ·show(p.1.setIfInBounds Z.1.size _)[k]?=_;rw[aD Aa];exact B.block k E b
  ·show(p.1.setIfInBounds Z.1.size _)[i]?=_;rw[aD (by have:=P.lt j;omega)]
  ·show(p.1.setIfInBounds Z.1.size _)[i]?=_;rw[aD (by have:=P.low.obj i j;omega)]
  ·walk_nrm;refine RN (Gy (Gy c λg G _=>t g Aa) λg G _=>?_) Aa
   show(p.1.setIfInBounds Z.1.size _)[g]?=_;rw[aD Aa]
def Abu(W:VW J Bs u)(sm Q F)(L:Bi y7 3 u sm (E0 F))(K:¬Bs sm)(Z:u.1[Q]?=lj (oh #[.map (lj sm)] 93))(w:¬Bs Q)(I:iK F<=99):Bg y7 km J Stop 209 #[.func (.func 211) #[] #[iB Q]] u λx O=>Ax u O iH/\VW J Bs O/\∃V,V.Perm (F.map l9)/\O.ownsRow u.1.size 3 1 x (iK V) (ints V):=by
 apply Bl func209 Ac iI (λ_ _=>zx Ac _ _ _) (λ_ _=>vk3 Ac _ _);simp only[ntmps209,na,Nat.reduceAdd,Nat.reduceSub];refine Wqw ?_;refine Keu ?_;refine Wqw ?_;refine V2g ?_;apply A2 (PL W sm Q F L K Z w I) iI Ac iI Af;rintro x b⟨C,a,V,T,q⟩;walk_nrm;refine Keu ?_;refine Dt ⟨kr iI,iI,C,a,V,T,?_⟩;walk_nrm;exact q
end
structure Ds(J0)(v:gk)(cb co:Nat)(cT)(Ev:gY)(pv)(p:gT)(ob:hY)(Cz cap)(bs:gT):Prop where
 glob:∀i,i<8->∃c e fz,v.1[i]?=lj (oh c e fz)
 blk:v.1[cb]?=lj (oh Ev cT)
 c0:Ev[co]?=lj pv
 c1:Ev[co+1]?=lj (gd sd)
 own:v.ownsRow 0 5 1 pv (iK p) (A4 p)
 ints:IntsIn v pv
 cb8:8<=cb
 pg8:∀g,pv.ownBlock=lj g->8<=g/\g≠cb/\ob≠lj g
 brow:∀bb,ob=lj bb->8<=bb/\bb≠cb/\∃c e fz,v.1[bb]?=lj (oh c e fz)/\Jf c
 len:iK bs<=cap
 bby:bs≠[]->∃bb,ob=lj bb/\Bytes v bb Cz bs
 jn:JIn J0 v.1.size cb ob pv.ownBlock
def I5(ob:hY)(Cz n cap:Nat):uo:=qh (ob.map λb=>(iD b Cz)) n cap
def Jp(N cb:Nat)(ob pg:hY):List Nat:=[0,1,2,3,4,5,6,7,cb,N+4,N+2,N,N+1,N+3]++(ob.toList++pg.toList)
def Te(ob:hY):Nat:=14+iK ob.toList
def Jd(k:Nat):uo->uo
 |qh (lj a) n c=>qh (lj ⟨k,a.off,jh⟩) n c
 |x=>x
def Hu(Ev:gY)(co:Nat)(pvB:uo):Array uo:=((Array.replicate Ev.size qp).setIfInBounds co pvB).setIfInBounds (co+1) (gd sd)
def Sh:Obj->Obj
 |oh c e fz=>oh #[] e fz
 |o=>o
def V9(u:gk)(N cb co:Nat)(cT:q9)(Ev:gY)(pvB:uo)(x:Nat):Obj:=
 if x=cb then oh (Hu Ev co pvB) cT else if x=N+2 then .chan 0 #[] sd 0 0 sd else if x<8∨N<=x then Sh ((u.1[x]?).getD (oh #[] 0)) else(u.1[x]?).getD (oh #[] 0)
def Iq(u:gk)(N cb co:Nat)(cT:q9)(Ev:gY)(ob:hY)(pv:uo):gk:=
 {u with heap:=((Jp N cb ob pv.ownBlock).map (V9 u N cb co cT Ev (Jd (Te ob) pv))).toArray }
def TR(co:Nat)(l:Loc):Prop:=(∃j,l=.cell ⟨8,j,jh⟩/\j≠co/\j≠co+1)∨l=.obj 10
section
variable {cb:Nat} {i:gT} {ob:hY}
def Ds.cbN(E:Ds m v cb U b d a i ob K L W):=ltOf E.blk
def Ds.bbN(E:Ds m v cb U b d a i ob K L W){X}(h:ob=lj X):=let⟨_,_,c,e,f,h,_⟩:=E.brow X h;ltOf h
def Ds.pgN(E:Ds m v cb U b d a i ob K L W){g}(h:a.ownBlock=lj g):=Cm E.own h
def Q9(E:Ds m v cb U b d a i ob K L W):(Jp v.1.size cb ob a.ownBlock).Nodup:=by
 have C:=E.7;have J:=E.cbN;unfold Jp;cases D:ob with
 |none=>
  cases Q:a.ownBlock with
  |none=>simp only[cK,bW,bZ,dQ,bH,dL,or_false,not_or,gM,mg4,wxw,and_true,not_false_eq_true];omega
  |some g=>
   have T:=E.8 g Q;have q:=E.pgN Q;exact W62
 |some X=>
  have z:=E.brow X D;have f:=E.bbN D;cases Q:a.ownBlock with
  |none=>simp only[cK,bW,bZ,dQ,bH,dL,or_false,not_or,gM,mg4,wxw,and_true,not_false_eq_true];omega
  |some g=>
   have T:=E.8 g Q;have q:=E.pgN Q;have M:X≠g:=λe=>T.2.2 (by rw[D,e]);exact W62
def Ak2(E:Ds m v cb U b d a i ob K L W)(Z:x∈Jp v.1.size cb ob a.ownBlock):x<iL v.1+5:=by
 have C:=E.7;have J:=E.cbN;simp only[Jp,bP,bH,dL,or_false,fY]at Z;rcases Z with Z|Z|Z
 ·omega
 ·have:=E.bbN Z;omega
 ·have:=E.pgN Z;omega
def Yo(E:Ds m v cb U b d a i ob K L W)(Z:x∈Jp v.1.size cb ob a.ownBlock)(I:¬(x<8∨iL v.1<=x))(M:x≠cb):ob=lj x∨a.ownBlock=lj x:=by
 simp only[Jp,bP,bH,dL,or_false,fY]at Z;rcases Z with Z|Z|Z
 ·omega
 ·exact r7 Z
 ·exact kr Z
def idx_eq{l:hZ}(z:l.Nodup){i}(C:l[i]?=lj x)(J:l[j]?=lj x):i=j:=by
 have ⟨m,a⟩:=aF.1 C;have ⟨P,b⟩:=aF.1 J;exact(List.getElem_inj z).1 (a.trans b.symm)
def IC{N pg X}(h:ob=lj X):(Jp N cb ob pg)[14]?=lj X:=by subst h;rfl
def ID{pg:hY}(h:pg=lj g):(Jp N cb ob pg)[Te ob]?=lj g:=by
 subst h;cases ob<;>rfl
def Yn(N pg):(Jp N cb ob pg).length=14+iK ob.toList+iK pg.toList:=by simp[Jp];omega
def Uo{i:Nat}{o}(h:(Iq u v.1.size cb U b d ob a).1[i]?=lj o):∃x,(Jp v.1.size cb ob a.ownBlock)[i]?=lj x/\o=V9 u v.1.size cb U b d (Jd (Te ob) a) x:=by
 simp only[Iq,rcn,aS,bB]at h
 grind
def IG{i x:Nat}(h:(Jp v.1.size cb ob a.ownBlock)[i]?=lj x):(Iq u v.1.size cb U b d ob a).1[i]?=lj (V9 u v.1.size cb U b d (Jd (Te ob) a) x):=by
 simp only[Iq,rcn,aS,h,aI]
def Lu:(Iq u v.1.size cb U b d ob a).1.size=14+iK ob.toList+iK a.ownBlock.toList:=by simp only[Iq,bD,bV,Yn]
def Rz(y):(Hu d U y).size=d.size:=by simp[Hu]
def Nb(E:Ds m v cb U b d a i ob K L W)(y):(Hu d U y)[U]?=lj y/\(Hu d U y)[U+1]?=lj (gd sd):=by
 have C:=(aG.1 E.c1).1
 constructor
 ·unfold Hu
  grind
 ·unfold Hu;rw[aQ (by simpa using C)]
def Nj{n J i}{c:gY}{e a I}(h:Go.Pair.LikeO n J i (Obj.cells c e a) I):∃B,I=Obj.cells B e a:=by
 rcases h with h|⟨Q,B,S,R,C,b,_⟩|⟨_,h,_⟩|⟨B,S,R,C,b⟩
 ·exact⟨_,h⟩
 ·grind
 ·exact absurd iI (h _ _ _)
 grind
def Un(k:Ds m v cb U b d a i ob K L W){B c}(F:Fc v cb U B c u)(Z:x∈Jp v.1.size cb ob a.ownBlock)(J:x≠iL v.1+2):∃e f g,u.1[x]?=lj (oh e f g):=by
 have I:∀y(e:gY)f(g:Nat×Nat),v.1[y]?=lj (oh e f g)->∃e f g,u.1[y]?=lj (oh e f g):=λy e f g P=>⟨e,f,g,F.K.get P λP=>P⟩;simp only[Jp,bP,bH,dL,or_false,fY]at Z;rcases Z with Z|Z|Z
 ·by_cases h:x<8
  ·obtain⟨e,f,g,P⟩:=k.glob x h;grind
  ·by_cases M:x=cb
   ·subst M;exact I _ _ _ _ k.blk
   ·have:x=iL v.1+4∨x=iL v.1∨x=iL v.1+1∨x=iL v.1+3:=Aa;rcases this with rfl|rfl|rfl|rfl
    ·exact⟨_,_,_,F.b4⟩
    ·exact⟨_,_,_,F.3⟩
    ·exact⟨_,_,_,F.4⟩
    ·exact⟨_,_,_,F.6⟩
 ·obtain⟨_,_,e,f,g,P,_⟩:=k.brow x Z;exact I _ _ _ _ P
 ·obtain⟨_,⟨P,_⟩|⟨ad,j,b7,P,_,T,_⟩⟩:=k.own
  ·rw[P]at Z;cases Z
  ·rw[P]at Z;obtain rfl:ad=x:=by simpa[yq] using Z
   exact I _ _ _ _ T
def Qd(c:Ds m v cb U b d a i ob K L W){I}(O:ob=lj I∨a.ownBlock=lj I):∃e f g,v.1[I]?=lj (oh e f g)/\Jf e:=by
 rcases O with O|O
 ·obtain⟨_,_,e,f,g,M,V⟩:=c.brow I O;grind
 ·obtain⟨_,⟨M,_⟩|⟨E,h,j,M,_,T,_⟩⟩:=c.own
  ·rw[M]at O;cases O
  ·have N:=O;rw[M]at N;obtain rfl:E=I:=by simpa[yq] using N
   exact⟨_,_,_,T,c.ints E _ O T⟩
def Alj(E:Ds m v cb U b d a i ob K L W)(n D)(h:∀g,a.ownBlock=lj g->Q D (Te ob)=Q n g):Az n a=Az D (Jd (Te ob) a):=by
 obtain⟨_,⟨rfl,_⟩|⟨g,c,H,rfl,_⟩⟩:=E.own
 ·simp[Jd]
 ·simp[Jd,Ei,h g iI]
def Aj3(n D k)(h:∀X,ob=lj X->Q D 14=Q n X):Az n (I5 ob K k L)=Az D (Jd 14 (I5 ob K k L)):=by
 cases ob with
 |none=>simp[I5,Jd]
 |some X=>simp[I5,Jd,Ei,h X iI]
def YC(E:Ds m v cb U b d a i ob K L W)(F:Fc v cb U o st u){n n' e g}(s:Di P n m e g u w)(A:∀g,a.ownBlock=lj g->sh n' (Te ob)=sh n g){c}(Z:(Jp v.1.size cb ob a.ownBlock)[c]?=lj x):∃I,w.1[sh n x]?=lj I/\LikeO n' (TR U) c (V9 u v.1.size cb U b d (Jd (Te ob) a) x) I:=by
 have k:=bA Z;have H:=E.cbN;unfold V9;by_cases M:x=cb
 ·rw[aL M];subst M;have V:c=8:=idx_eq (Q9 E) Z iI;subst V;have p:d≠#[]:=λf=>by have:=E.c0;grind
  refine⟨_,s.row (F.K.get E.blk λh=>h) p E.jn.cb,kr (r7 ⟨_,_,_,_,iI,iI,by simp[Rz],λj l=>?_⟩)⟩;have D:j=U∨j=U+1:=cH λz=>l (r7 ⟨j,iI,λf=>z (r7 f),λf=>z (kr f)⟩);rcases D with rfl|rfl
  ·rw[(Nb E _).1,aN,E.c0,aI,aI,Alj E n n' A]
  ·rw[(Nb E _).2,aN,E.c1];simp
 ·rw[aM M];by_cases J:x=iL v.1+2
  ·rw[aL J];subst J;obtain⟨I,C,T⟩:=(s.sm 0).4 _ _ F.b2;refine⟨I,C,?_⟩;rcases T with T|⟨_,_,_,_,T,_⟩|⟨T,_⟩|⟨_,_,_,T,_⟩
   ·rw[T];exact r7 (by simp[Dq])
   ·cases T
   ·exact(E.jn.obj _ T.1).elim
   ·cases T
  ·rw[aM J];obtain⟨G,f,y,Y⟩:=Un E F k J;obtain⟨I,C,T⟩:=(s.sm 0).4 _ _ Y;refine⟨I,C,?_⟩;rw[Y];simp only[aY];split
   ·obtain⟨B,rfl⟩:=Nj T;exact kr (kr (kr ⟨B,f,y,iI,iI⟩))
   ·rename_i t;obtain⟨Q,S,R,r,q⟩:=Qd E (Yo E k t M);rw[F.K.get r λh=>h]at Y;cases Y;by_cases p:G=#[]
    ·subst p;obtain⟨B,rfl⟩:=Nj T;exact kr (kr (kr ⟨B,f,y,iI,iI⟩))
    ·have:=Go.Pair.LikeO.row T p ((Yo E k t M).elim (λh=>E.jn.ob h) λh=>E.jn.pg h);rw[this,q.map n];exact r7 (by simp only[Dq];rw[q.map n'])
end
section
variable {J:gW}
def An6(W:VW J c u)(sm):Bg y7 km J F 190 #[.map (lj sm)] u λx O=>x=.func (.func 211) #[] #[iB u.1.size]/\Ax u O iH/\VW J c O/\O.1[iL u.1]?=lj (oh #[.map (lj sm)] 93):=by
 apply Bl func190 Ac iI (λ_ _=>zx Ac _ _ _) (λ_ _=>vk3 Ac _ _);simp only[ntmps190,na,Nat.reduceAdd,Nat.reduceSub];refine Wqw ?_;apply Dk #[.map _] 93;walk_nrm;refine Keu ?_;refine Wqw ?_;refine Wad ?_;refine Ro8 ?_;refine Dt ⟨kr iI,iI,?_,Ba u _ 93 _,W.alloc _ 93,iw _ _⟩;walk_nrm
def ZW{V c:List Int}(h:V.Perm c)(F:c.Pairwise (·<=·)):(V.mergeSort λx y=>decide (x<=y))=c:=by
 refine fS (λa b _ _ C J=>Int.le_antisymm C J) ?_ F ((fI _ _).trans h);exact(fX Aj (by intro a b;simp;omega) _).imp λh=>Aan
def Ah9(W:VW J c u)(sm Q a)(e:a≠[])(S:iK a<=8)(C:(a.map l9).Pairwise (·<=·))(L:Bi y7 3 u sm (E0 a))(K:¬c sm)(Z:u.1[Q]?=lj (oh #[.map (lj sm)] 93))(w:¬c Q):Bg y7 km J F 189 #[.func (.func 211) #[] #[iB Q]] u λx X=>Ax u X iH/\VW J c X/\∃g I,x=qh (lj (iC g)) (iK a) I/\iK a<=I/\iL u.1<=g/\∀j q,a[j]?=lj q->X.cell? (iD g j)=lj (iE q.1):=by
 apply Bl func189 Ac iI (R:=λv=>v.getD 2 qp) (λ_ _=>zx Ac _ _ _) (λ_ _=>vk3 Ac _ _);simp only[ntmps189,na,Nat.reduceAdd,Nat.reduceSub];refine Wqw ?_;refine Keu ?_;refine Wqw ?_;refine V2g ?_;apply A2 (Abu W sm Q a L K Z w Aa) iI Ac iI Af;rintro x T⟨b,P,V,n,z⟩;walk_nrm;refine Keu ?_;have p:iK V=iK a:=by have:=n.length_eq;simpa using this
 have af:0<iK a:=eP.2 e;obtain⟨aa,⟨rfl,hn⟩|⟨g,I,H,rfl,G,D,a1,a6,s,R⟩⟩:=z
 ·omega
 refine Wqw ?_;refine V2g ?_;have U:¬c g:=λh=>by have:=W.lt h;omega
 have A:∀r,J (.obj r)->¬r=g:=λr Y h=>by
  obtain⟨a7,z,i⟩:=P.3 r Y;rw[h,D]at z;cases z;cases i
 refine A2 (Gg (f:=210) (args:=#[qh (lj (iC g)) (iK V) I]) Ae P (X:=(· = g)) (R:=λy d=>y=js #[]/\∀j (h:j<iK V),d.cell? (iD g j)=lj (iE ((V.mergeSort λx y=>decide (x<=y))[j]'(by simp_all)))) A λm o=>?_) iI Ac iI Af ?_
 ·refine(ZV m g I V H 3 ((o.same U).trans D) (λj l=>?_) Aa).mono λa8 d h=>⟨⟨_,h.1,iI,h.2.2⟩,Ax.of_grown h.2.1 (r7 iI)⟩;have ab:(H.toList.take (iK V * 1))[j]?=lj (iE V[j]):=by
   grind
  grind
 rintro y B⟨f,t,ad,M,ae,rfl,N⟩;walk_nrm;refine Ro8 ?_;refine Wqw ?_;refine Wad ?_;refine Ro8 ?_;refine Dt ⟨kr iI,iI,⟨f.os.trans b.os,f.tape.trans b.tape,f.output.trans b.output,aE b.size f.size,λk E _=>(f.block k (aA E b.size) Aa).trans (b.block k E id)⟩,t,g,I,?_,Aa,G,λj q l=>?_⟩
 ·walk_nrm;rw[p]
 ·obtain⟨ah,O⟩:=((aF.1 l));have:=N j Aa;simp only[(ZW n C)]at this;rw[(Cg (M g U)).symm.trans this];simp[←O]
end
section
variable {H:E2} {cb:Nat} {i:gT} {ob:hY}
def Aon(t:uo)(h:t.ownBlock=lj g):Te ob<14+iK ob.toList+iK t.ownBlock.toList:=by rw[h];simp[Te]
def Ali(E:Ds m v cb U b d a i ob K L W)(c:14+iK ob.toList+iK a.ownBlock.toList<=M):Az (.up M) (Jd (Te ob) a)=Jd (Te ob) a:=by
 obtain⟨_,⟨rfl,_⟩|⟨g,e,H,rfl,_⟩⟩:=E.own
 ·simp[Jd]
 ·have:=Aon (ob:=ob) (qh (lj (iC g)) (iK i) e) iI;simp[Jd,Ei,Im (aA this c)]
def Aj2(k)(b:14+iK ob.toList<=M):Az (.up M) (Jd 14 (I5 ob K k L))=Jd 14 (I5 ob K k L):=by
 cases ob with
 |none=>simp[I5,Jd]
 |some X=>
  have:14<M:=by simp at b;omega
  simp[I5,Jd,Ei,Im this]
def Ahk(E:Ds m v cb U b d a i ob K L W)(F:Fc v cb U o st u){c}(h:(Iq u v.1.size cb U b d ob a).1[e]?=lj c):LikeO (.up (Iq u v.1.size cb U b d ob a).1.size) (TR U) e c c:=by
 obtain⟨x,Z,rfl⟩:=Uo h;have k:=bA Z;rw[Lu];apply r7;unfold V9;split
 ·simp only[Dq]
  congr 1
  refine bX λj=>?_;rw[aN];have n:∀y,(Hu d U (Jd (Te ob) a))[j]?=lj y->Az (.up (14+iK ob.toList+iK a.ownBlock.toList)) y=y:=λy f=>by
   unfold Hu at f;rw[bY]at f;split at f
   ·split at f
    ·cases f;simp
    ·cases f
   ·rw[bY]at f;split at f
    ·split at f
     ·cases f;exact Ali E (aC _)
     ·cases f
    ·rw[Array.getElem?_replicate]at f;split at f
     ·cases f;exact Eu _
     ·cases f
  cases l:(Hu d U (Jd (Te ob) a))[j]? with
  |none=>rfl
  |some y=>rw[aI,n y l]
 ·rename_i M;split
  ·simp[Dq]
  ·rename_i J;obtain⟨g,p,s,Y⟩:=Un E F k J;rw[Y];simp only[aY];split
   ·simp[Sh,Dq]
   ·rename_i t;obtain⟨Q,S,R,r,q⟩:=Qd E (Yo E k t M);rw[F.K.get r λh=>h]at Y;cases Y;simp only[Dq];rw[q.map]
def NM(n W B J Y N D U T):Bn n (GM W B J Y N D U T)=GM (Q n W) (Q n B) (Q n J) (Q n Y) (Q n N) (Q n D) U (Az n T):=by
 unfold GM;rw[Ep,Gn,AM];simp only[bC,cM,VK];have S:Bj n (QM (T62 W B J Y N D U T) W N)=QM (T62 (Q n W) (Q n B) (Q n J) (Q n Y) (Q n N) (Q n D) U (Az n T)) (Q n W) (Q n N):=by
  unfold QM;rw[Gn,EU]
  congr 2
  simp[T62,Ei,Eu]
 rw[S];have L:(Dl (Az n (Jk D U)) (Az n T) (Az n (.chan (lj N))) (Az n qp) λi=>Az n qp)=Dl (Jk (Q n D) U) (Az n T) (.chan (lj (Q n N))) qp λ_=>qp:=by
  simp[Jk,Ei,Eu]
 rw[L]
 rfl
def Ane(E:Ds m v cb U b d a i ob K L W)(F:Fc v cb U o st u):Wk (TR U) (· = 8) (Iq u v.1.size cb U b d ob a) (a.ownBlock.map λ_=>Te ob) 8 U (if ob=jh then 13 else 14) iH (Iq u v.1.size cb U b d ob a) (Jd (Te ob) a) sd i/\Src (· = 8) (Iq u v.1.size cb U b d ob a) (if ob=jh then 13 else 14) (Jd 14 (I5 ob K (iK W) L)) W:=by
 have hcut:(Iq u v.1.size cb U b d ob a).1[8]?=lj (oh (Hu d U (Jd (Te ob) a)) b):=by
  rw[IG (x:=cb) iI];simp[V9]
 have z:(Iq u v.1.size cb U b d ob a).1[10]?=lj (.chan 0 #[] sd 0 0 sd):=by
  rw[IG (x:=iL v.1+2) iI];unfold V9;rw[aM (by have:=E.cbN;omega),aL iI]
 have P:∀c x(k:gY)e(w:Nat×Nat),(Jp v.1.size cb ob a.ownBlock)[c]?=lj x->(ob=lj x∨a.ownBlock=lj x)->v.1[x]?=lj (oh k e w)->(Iq u v.1.size cb U b d ob a).1[c]?=lj (oh k e w):=λc x k e w C J T=>by
  rw[IG C];have q:8<=x/\x≠cb/\x<iL v.1:=by
   rcases J with J|J
   ·exact⟨(E.brow x J).1,(E.brow x J).2.1,E.bbN J⟩
   ·exact⟨(E.8 x J).1,(E.8 x J).2.1,E.pgN J⟩
  unfold V9;rw[aM q.2.1,aM Aa,aM Aa,F.K.get T λh=>h]
  rfl
 have B:(Iq u v.1.size cb U b d ob a).ownsRow 0 5 1 (Jd (Te ob) a) (iK i) (A4 i):=by
  obtain⟨n,⟨h,C⟩|⟨g,p,H,h,J,T,r,t,y,M⟩⟩:=E.own
  ·rw[h];exact⟨n,r7 ⟨iI,C⟩⟩
  ·refine⟨n,kr ⟨Te ob,p,H,Aa1,bF _,?_,r,t,y,M⟩⟩;exact P _ g _ _ _ (ID Aa1) (kr Aa1) T
 have s:∀g,(Jd (Te ob) a).ownBlock=lj g->g=Te ob/\∃I,a.ownBlock=lj I:=λg G=>by
  obtain⟨_,⟨h,_⟩|⟨I,p,H,h,_⟩⟩:=E.own
  ·rw[h]at G;cases G
  ·rw[h]at G;exact⟨by simpa[Jd,yq,eq_comm] using G,I,Aa1⟩
 have A:VW (TR U) (· = 8) (Iq u v.1.size cb U b d ob a):=by
  refine⟨λc V=>by subst V;exact⟨_,_,_,hcut⟩,λa6 N=>?_,λa7 Y=>?_,λa8 O=>?_⟩
  ·rcases N with⟨j,e,_⟩|e
   ·cases e;rfl
   ·cases e
  ·rcases Y with⟨j,e,_⟩|e
   ·cases e
   ·cases e;exact⟨_,z,iI⟩
  ·rcases O with⟨j,e,_⟩|e<;>cases e
 have aa:14<=Te ob:=by unfold Te;omega
 have Z:∀I,a.ownBlock=lj I->Te ob≠(if ob=jh then 13 else 14):=λI _=>by
  cases ob with
  |none=>simp[Te]
  |some X=>simp[Te]
 refine⟨⟨⟨A,iI,?_,?_,cellOf (j:=U) hcut (Nb E _).1,cellOf (j:=U+1) hcut (Nb E _).2,Dm hcut,Dm hcut,B,λg G e=>?_,λg cc G h=>?_⟩,.refl _ _,λg G=>?_,λ_ h=>h.elim,?_⟩,⟨?_,?_⟩⟩
 ·rintro(⟨j,e,C,J⟩|e)
  ·cases e;exact C iI
  ·cases e
 ·rintro(⟨j,e,C,J⟩|e)
  ·cases e;exact J iI
  ·cases e
 ·have:=(s g G).1;omega
 ·obtain⟨rfl,I,l⟩:=s g G;obtain⟨ab,ad,ae,Q,R⟩:=Qd E (kr l);rw[P _ I _ _ _ (ID l) (kr l) Q]at h;cases h;exact R
 ·obtain⟨rfl,I,l⟩:=s g G;exact⟨r7 (by rw[l];rfl),Z I l,λh=>h⟩
 ·split<;>omega
 ·split<;>omega
 ·have S:Jd 14 (I5 ob K (iK W) L)=qh (ob.map λ_=>⟨14,K,jh⟩) (iK W) L:=by cases ob<;>rfl
  refine⟨_,_,S,E.len,λD=>?_⟩;obtain⟨X,f,a1⟩:=E.bby D;refine⟨K,by rw[f];rfl,?_⟩;rw[f,aM Ad];obtain⟨_,_,k,e,w,Y,_⟩:=E.brow X f;rw[←f];intro c V;have C:=a1 c V;rw[Ci Y]at C
  rwa[Ci (P 14 X k e w (IC f) (r7 f) Y)]
end
section
variable {G:Nat->uo×uo}
variable {h:gS} {z:gX} {J:gW}
def O1{w cb kind p d n v}(h:w.1[cb]?=lj (oh (Du kind p d n v) 152))(l:∀k,¬J (.cell (iD cb k)))(o)(k:Nat)(O:o.op=.load 152 (.tmp k))(a:Act)(E:a.eval (.tmp k)=iB cb):Go.Pair.Yields y7 (execOp a.eval o) w (M3 kind p d n v) w/\∀e∈(execOp a.eval o).events y7 w #[],Ff J e:=by
 have ⟨c0,Q,R,U,u⟩:=T0 h iI;unfold execOp;rw[O];simp only[E];refine⟨r7 ?_,λe N=>?_⟩
 ·go_simp
 ·simp[go_sem,c0,Q,R,U,u]at N;rcases N with rfl|rfl|rfl|rfl|rfl<;>exact Cl (l _)
def Jb.kx{P j rt z G X}(h:Jb P j rt z G w)(E:Ax w B X)(C:¬X P)(J:¬X z):Jb P j rt z G B:=⟨E.keep h.1 C,E.keep h.2 J⟩
def WB(J:gW)(Bs:gV)(svb:Nat)(vc:gY)(eb:Nat)(what:Int)(q:gU)(sm:Nat)(ss:List (Int×Nat))(w:gk):Prop:=w.1[svb]?=lj (oh vc 95)/\w.1[eb]?=lj (oh #[iE what,pc q] 266)/\Bi y7 3 w sm (E0 ss)/\VW J Bs w
def WB.at{svb vc eb what q sm ss}(w d)(h:WB J Bs svb vc eb what q sm ss w):WB J Bs svb vc eb what q sm ss (w.at d):=⟨h.1,h.2.1,h.2.2.1.of_block iI,h.2.2.2.at d⟩
def WB.kx{z G K q F X}(h:WB J Bs z G g K q sm F w)(E:Ax w B X)(W:VW J Bs B)(b:¬X z)(T:¬X g)(c:¬X sm):WB J Bs z G g K q sm F B:=⟨E.get h.1 b,E.get h.2.1 T,h.2.2.1.of_block (E.block _ h.2.2.1.lt c),W⟩
def An8:Keyed y7 3:=int_keyed underlying3
def UQ{w K}{q:gU}(c0:w.cell? (iD Z C)=lj (iE K))(Q:w.cell? ⟨Z,C+1,jh⟩=lj (pc q))(l:∀k,¬J (.cell (iD Z k)))(o)(k:Nat)(O:o.op=.load 266 (.tmp k))(a:Act)(E:a.eval (.tmp k)=pdw (lj (iD Z C))):Go.Pair.Yields y7 (execOp a.eval o) w (faj #[iE K,pc q]) w/\∀e∈(execOp a.eval o).events y7 w #[],Ff J e:=by
 unfold execOp;rw[O];simp only[E];refine⟨r7 ?_,λe N=>?_⟩
 ·go_simp
 ·simp[go_sem,c0,Q]at N;rcases N with rfl|rfl<;>exact Cl (l _)
def at_set(w:gk)(d a x):(w.at d).setCell a x=(w.setCell a x).at d:=iI
def Aab{what}{q:gU}(h:w.1[g]?=lj (oh #[iE 0,pc iG] 266))(l:∀k,¬J (.cell (iD g k)))(o)(O:o.op=.store 266 (.tmp 7) (.tmp 30))(a:Act)(f:a.eval (.tmp 7)=iB g)(L:a.eval (.tmp 30)=faj #[iE what,pc q]):(∀d,Go.Pair.Yields y7 (execOp a.eval o) (w.at d) qp (((w.setCell (iC g) (iE what)).setCell (iD g 1) (pc q)).at d))/\∀d,∀e∈(execOp a.eval o).events y7 (w.at d) #[],Ff J e:=by
 refine⟨λd=>kr ⟨?_,iI⟩,λd=>?_⟩
 all_goals
  obtain⟨y,m⟩:=Ck2 (w:=(w.at d)) 0 1 h;obtain⟨Q,D⟩:=Fk2 (w:=(w.at d)) 0 1 h;unfold execOp;rw[O];simp only[f,L]
 ·go_simp;simp only[at_set]
 ·intro e N;simp[go_sem,y,m,Q,D,gog _ _ _ _ (Value.string _) lc2 iI,storedEv]at N;rcases N with rfl|rfl<;>exact Cl (l _)
def NV{t:Ren->Sem Next}{U x}(h:Plain v->GC P J t v x U):GC P J t v x U:=⟨λQ=>(h Q).plain Q,λQ=>(h Q).frame Q,λQ=>(h Q).all Q⟩
def ZK{S u o a d x}(W:VW J Bs d)(V:Oi y7 S u o)(j:S.reg u a.tmps)(h:(execOp a.eval o).run y7 (Bb Bs d)=.ok (.value x) (Bb Bs d)):GC y7 J (Fp a o) d x d:=NV λQ=>by
 have q:Plain (Bb Bs d):=Qm Q;have r:∀b:Act,((default:qq).at b []).eval=b.eval:=λb=>funext λy=>Frame.eval_at _ b [] y;have ⟨l,F⟩:=R8;have g:Rf y7 l (Kz l) (execOp a.eval o) (Fp a o l):=by
  have:=V.rf l ((default:qq).at a []) (F _) j;exact this
 have ⟨i,f,k⟩:=g.mono _ _ _ q h;have t:∀e∈(execOp a.eval o).events y7 _ #[],Ff J e:=λe N=>(W.blind).frame (by rw[Dc];exact W.low) f e (k e N);have:=GC.over W.rows (Fy W.rows) (λ_=>q) (Qo V j (r7 h) t);rw[I3 W.rows]at this;exact this.1
def Aiq{g I G x a S fn}(W:qy G (yielded g a.tmps)=km)(V:Oi y7 S fn G)(j:S.reg fn a.tmps)(o:∀w,I w->VW J Bs w)(c:∀w L,I w->X4 Bs w L->(execOp a.eval G).run y7 L=.ok (.value x) L):YV y7 J g I G x a:=
 ⟨λh=>absurd (W.symm.trans h) Ad,λ_ w b=>ZK (o w b) V j (c w _ b (.refl _))⟩
noncomputable def UN:Code:=match f161.body with|some (.seq _ (.seq _ (.block _ (.loop (.seq _ (.seq _ (.seq (.block _ (.seq _ (.seq _ (.block _ (.loop (.seq _ (.seq _ (.seq (.block _ c) _)))))))) _)))))))=>c|_=>.skip
noncomputable def TI(svb rb:Nat)(k:Int)(gr m gcap j eg n ecap i:Nat)(s:hQ):Act:=⟨#[iB svb,s 1,s 2,iB rb,s 4,iE k,s 6,s 7,s 8,s 9,s 10,s 11,s 12,qh (lj (iC gr)) m gcap,iE m,iE j,s 16,s 17,s 18,s 19,s 20,s 21,s 22,s 23,s 24,qh (lj (iC eg)) n ecap,iE n,iE i,s 28,s 29,s 30,s 31,s 32,s 33,s 34,s 35,s 36,s 37,s 38,s 39,s 40,s 41,s 42,s 43,s 44,s 45,s 46,s 47,s 48,s 49],[]⟩
noncomputable def TO(svb rb gr m gcap j:Nat)(s:hQ):Act:=⟨#[iB svb,s 1,s 2,iB rb,s 4,s 5,s 6,s 7,s 8,s 9,s 10,s 11,s 12,qh (lj (iC gr)) m gcap,iE m,iE j,s 16,s 17,s 18,s 19,s 20,s 21,s 22,s 23,s 24,s 25,s 26,s 27,s 28,s 29,s 30,s 31,s 32,s 33,s 34,s 35,s 36,s 37,s 38,s 39,s 40,s 41,s 42,s 43,s 44,s 45,s 46,s 47,s 48,s 49],[]⟩
noncomputable def TN(svb rb:Nat)(k:Int)(gr m gcap j:Nat)(ev:uo)(n i:Nat)(s:hQ):Act:=⟨#[iB svb,s 1,s 2,iB rb,s 4,iE k,s 6,s 7,s 8,s 9,s 10,s 11,s 12,qh (lj (iC gr)) m gcap,iE m,iE j,s 16,s 17,s 18,s 19,s 20,s 21,s 22,s 23,s 24,ev,iE n,iE i,s 28,s 29,s 30,s 31,s 32,s 33,s 34,s 35,s 36,s 37,s 38,s 39,s 40,s 41,s 42,s 43,s 44,s 45,s 46,s 47,s 48,s 49],[]⟩
def Aq1{z P k o m p a}(h:a=TI z P k o m p j Z n K i (λj=>a.tmps.getD j qp)):∃W,a=TI z P k o m p j Z n K i W:=⟨_,h⟩
def Ape{z P o m p a}(h:a=TO z P o m p j (λj=>a.tmps.getD j qp)):∃W,a=TO z P o m p j W:=⟨_,h⟩
def Aia(bg:It h z)(C:Cx z y J Bs w){db tb c K I num r}(V:GF Bs w svb db tb c M sm K I num r){p:SI}(S:Gi G J Bs w p.b p.k p.ver p.en p.6 p.lo)(bu:iK p.lo<=10000000000)(ss)(bh:(p.k,p.b)∈ss)(bj:keyOf y7 3 (iE p.k)=lj (Lit.int gh p.k))(hm:Bi y7 3 w sm (E0 ss))(b8:¬Bs sm)(rb gr ai al j g n o i)(bw:i<n)(bx:n<=o)(what)(q:gU)(bk:-2147483648<=what)(bm:what<=2147483647)(ar:q.size<=200)(au:h q=km)(b9:w.cell? ⟨g,i * 2,jh⟩=lj (iE what))(ba:w.cell? ⟨g,i * 2+1,jh⟩=lj (pc q))(aa:¬Bs g)(s):Hp y7 km J F 161 UN (λm a' e=>m=.normal/\(∃H,a'=TI svb rb p.k gr ai al j g n o i H)/\Told G J Bs w e p.b p.k p.ver p.en p.6 p.lo (evB num what q)) (TI svb rb p.k gr ai al j g n o i s) w:=by
 have bb:∀N,¬J (.cell (iD g N)):=λN Z=>aa (C.W.2 _ Z);have jv:∀N,¬J (.cell (iD svb N)):=λN Z=>V.nv (C.W.2 _ Z);have aw:=S.lt;unfold UN TI;simp only[f161];refine Wqw ?_;refine Cd (pdw (lj ⟨g,i * 2,jh⟩)) ?_;walk_nrm;refine Cy (S:=env Lv) (fn:=161) iI Ac (B7 Ab) (A6 _ _) (x:=faj #[iE what,pc q]) (v':=w) (λt=>(UQ (J:=J) (w:=w.at t) b9 ba bb _ _ iI _ Ac).1) (λt=>(UQ (J:=J) (w:=w.at t) b9 ba bb _ _ iI _ Ac).2) ?_;walk_nrm;refine Dk #[iE 0,pc iG] 266 ?_;walk_nrm;have W:=Ba w #[iE 0,pc iG] 266 iH;have W6:=C.W.alloc #[iE 0,pc iG] 266;have av:(w.alloc (oh #[iE 0,pc iG] 266)).1[iL w.1]?=lj (oh #[iE 0,pc iG] 266):=iw _ _;generalize w.alloc (oh #[iE 0,pc iG] 266)=Y at W W6 av⊢;have bn:¬Bs w.1.size:=λZ=>by have:=C.W.lt Z;omega
 have ax:∀N,¬J (.cell (iD w.1.size N)):=λN Z=>bn (C.W.2 _ Z);have a6:=Aab (J:=J) (what:=what) (q:=q) av ax;refine Cy (S:=env Lv) (fn:=161) iI Ac (B7 Ab) (A6 _ _) (x:=qp) (v':=(Y.setCell (iC w.1.size) (iE what)).setCell (iD w.1.size 1) (pc q)) (a6 _ iI _ Ac Ac).1 (a6 _ iI _ Ac Ac).2 ?_;walk_nrm;refine Ro8 ?_;have B:Br Y ((Y.setCell (iC w.1.size) (iE what)).setCell (iD w.1.size 1) (pc q)) w.1.size #[iE what,pc q] 266:=((Br.refl av).set 0 _).set 1 _;have ae:VW J Bs ((Y.setCell (iC w.1.size) (iE what)).setCell (iD w.1.size 1) (pc q)):=(W6.set _ _ _).set _ _ _;generalize (Y.setCell (iC w.1.size) (iE what)).setCell (iD w.1.size 1) (pc q)=u7 at B ae⊢;have an:Ax w u7 iH:=⟨B.grown.os.trans W.os,B.grown.tape.trans W.tape,B.grown.output.trans W.output,aE W.size B.grown.size,λN hk _=>(B.grown.block N (aA hk W.size) (λZ=>by cases Z;omega)).trans (W.block N hk id)⟩;have O:=WB.at (J:=J) (Bs:=Bs) (svb:=svb) (vc:=B8 db tb M sm K I) (eb:=iL w.1) (what:=what) (q:=q) (sm:=sm) (ss:=ss);refine Em (I:=WB J Bs svb (B8 db tb M sm K I) w.1.size what q sm ss) Ac λQ=>?_;have u:WB J Bs svb (B8 db tb M sm K I) w.1.size what q sm ss (u7.at Q):=⟨an.get V.1 id,B.blk,(hm.of_block (an.block _ hm.lt id)).of_block iI,ae.at Q⟩;have b:∀(ay:Act)(e:gk)(az:Nat),(uz7=uz7/\(∃H,ay=TI svb rb p.k gr ai al j g n o i H)/\Told G J Bs w e p.b p.k p.ver p.en p.6 p.lo (evB num what q))->(uz7=uz7/\(∃H,ay=TI svb rb p.k gr ai al j g n o i H)/\Told G J Bs w (e.at az) p.b p.k p.ver p.en p.6 p.lo (evB num what q)):=λay w az⟨R,E,T⟩=>⟨R,E,T.at az⟩;refine A9.tp 0 O b u ?_;walk_nrm;refine A9.tp 1 O b u ?_;walk_nrm;refine A9.tp 2 O b u ?_;walk_nrm;refine A9.tp 4 O b u ?_;walk_nrm;refine A9.tp 6 O b u ?_;walk_nrm;refine A9.tp 7 O b u ?_;walk_nrm;refine A9.tp 8 O b u ?_;walk_nrm;refine A9.tp 11 O b u ?_;walk_nrm;refine A9.tp 13 O b u ?_;walk_nrm;refine A9.tl 3 O b u (λw (a:WB _ _ _ _ _ _ _ _ _ w)=>(cellOf (j:=3) a.1 iI:w.cell? (iD svb 3)=lj (.map (lj sm)))) (jv 3) ?_;walk_nrm;refine A9.tl 9 O b u (λw (a:WB _ _ _ _ _ _ _ _ _ w)=>(cellOf (j:=1) a.1 iI:w.cell? (iD svb 1)=lj (iB tb))) (jv 1) ?_;walk_nrm;refine A9.tl 12 O b u (λe (a:WB _ _ _ _ _ _ _ _ _ e)=>(cellOf (j:=0) a.2.1 iI:e.cell? (iC w.1.size)=lj (iE what))) (ax 0) ?_;walk_nrm;refine A9.tl 14 O b u (λe (a:WB _ _ _ _ _ _ _ _ _ e)=>(cellOf (j:=1) a.2.1 iI:e.cell? (iD w.1.size 1)=lj (pc q))) (ax 1) ?_;walk_nrm;have bo:∀w:gk,Bi y7 3 w sm (E0 ss)->(Instr.lookup 93 (.map (lj sm)) (iE p.k) sd).run y7 w=.ok (iB p.b) w:=λw bq=>Bi.look_some sd bq An8 underlying93 (kl:=.int .i64 p.k) bj (v:=iB p.b) (aZ.2 ⟨_,bh,iI⟩);refine A9.take (i:=5) (x:=iB p.b) O b iI Ab Ab Ab (Aiq (Bs:=Bs) (S:=env Lv) (fn:=0) Ac (B7 Ab) (A6 _ _) (λw a=>a.2.2.2) (λw d a l=>?_)) u ?_
 ·unfold execOp;walk_nrm;simp only[asz,bo d (a.2.2.1.of_block (l.same b8))]
  rfl
 walk_nrm;refine Ca (i:=10) (Gg (f:=42) (args:=#[iB tb]) Ae (ae.at Q) (X:=λ_=>False) (R:=λx _=>x=iE num) (λ_ _ Z=>Z) λd l=>?_) Ab iI Ac iI Af ?_
 ·exact(Kb d tb c num r (((V.ht.kx an id id).at Q).sim l V.4 V.nm)).mono λm e Z=>⟨⟨_,Z.1,iI⟩,by rw[Z.2];exact Ax.refl _ _⟩
 rintro x a1⟨bc,U,L8,bz,c6,rfl⟩;have bd:=u.kx bc U id id id;refine⟨bd,?_⟩;walk_nrm;have A:Ax w a1 iH:=(an.at Q).trans bc;refine Ca (i:=15) (Gg (f:=192) (args:=#[iE num,iE what,pc q]) Ae U (X:=λ_=>False) (R:=λx e=>e.ownsRow a1.1.size 5 1 x (evB num what q).length (A4 (evB num what q))) (λ_ _ Z=>Z) λd l=>?_) Ab iI Ac iI Af ?_
 ·have D:=(C.kx A U λi Z=>Z.elim).glob l;refine(XJ bg d D.tabs D.table num what q V.6 V.z2 bk bm ar au).mono λm e Z=>?_;exact Icn
 rintro f ah⟨L,a7,aj,ab,ak,af⟩;have v:=bd.kx L a7 id id id;refine⟨v,?_⟩;walk_nrm;have X:=A.trans L;have k:=S.kx X (λZ=>Z) λ_ _ Z=>Z;obtain⟨ao,aq⟩:=Qj a7 (λi hi=>U.lt hi) ab af;have c7:=UH num what q;refine Ca (i:=16) (OG a7 k f (evB num what q) Aa Aa ao λad hg=>(aq ad hg).1) Ab iI Ac iI Af ?_;rintro x bf⟨rfl,b5⟩;have c8:=X.size;have br:=v.kx b5.K b5.W (by
   rintro(Z|Z)
   ·exact V.nv (Z▸S.inb)
   ·obtain⟨_,⟨P,_⟩|⟨ad,b6,b7,P,_,T,_⟩⟩:=k.own
    ·rw[P]at Z;cases Z
    ·rw[P]at Z;obtain rfl:ad=svb:=by simpa[yq] using Z
     rw[v.1]at T;cases T) (by
   rintro(Z|Z)
   ·omega
   ·have:=Cm S.own Z;omega) (by
   rintro(Z|Z)
   ·exact b8 (Z▸S.inb)
   ·obtain⟨_,⟨P,_⟩|⟨ad,b6,b7,P,_,T,_⟩⟩:=k.own
    ·rw[P]at Z;cases Z
    ·rw[P]at Z;obtain rfl:ad=sm:=by simpa[yq] using Z
     obtain⟨es,c9,R,_⟩:=v.2.2.1.ex;rw[R]at T;cases T)
 refine⟨br,?_⟩;walk_nrm;exact A9.all Ab ⟨iI,Aq1 iI,b5.from X aw⟩ _
end
@[reducible] def LE(n:Ren)(N:Nat)(In Shun:gW)(k:Nat):Mw:=
 {Shun,k,Wg:=Q n (N+4),Ch:=Q n (N+2),Ro:=λl=>(∃a,l=.cell a/\(a.block=Q n N∨a.block=Q n (N+1)∨a.block=Q n (N+3)))∨In l }
def KBE(u0:gk)(co:Nat)(n':Ren)(l:Loc):Prop:=∃q,Iu u0 q/\¬TR co q/\l=Ge n' q
def JAE(cb co N:Nat)(l:Loc):Prop:=l=.cell (iD cb co)∨l=.cell ⟨cb,co+1,jh⟩∨l=.obj (N+2)
def OQ(J0:gW)(cb co N:Nat):Loc->Prop:=JOr (JAE cb co N) J0
def Ls(N:Nat)(ob pg:hY)(i:Nat):Prop:=i=N∨i=N+1∨i=N+3∨i=N+4∨ob=lj i∨pg=lj i
def yR(cb co N:Nat)(bsl clo:uo)(i:Nat):uo:=if i=17 then .chan (lj (N+2)) else yE cb co N bsl clo (js #[]) (Pu N) i
section
variable {H:E2} {cb:Nat} {i:gT} {ob:hY} {n:Ren} {e:gk} {p:gW}
def Sz(E:Ds m v cb U b d a i ob K L W)(n):((Jp v.1.size cb ob a.ownBlock).map (Q n)).Nodup:=List.Pairwise.map _ (λc f h e=>h (Gq e)) (Q9 E)
def IB(E:Ds m v cb U b d a i ob K L W)(F:Fc v cb U o st u){c}(s:Di y7 n m c h u e):∀x∈(Jp v.1.size cb ob a.ownBlock).map (Q n),x<iL e.1:=λx Z=>by
 obtain⟨y,f,rfl⟩:=aZ.1 Z;exact(s.sm 0).lt y (by rw[F.size];exact Ak2 E f)
def nB(E:Ds m v cb U b d a i ob K L W)(F:Fc v cb U o st u){Own}(hs:Di y7 n m Own h u e):Ren:=Ren.ofList ((Jp v.1.size cb ob a.ownBlock).map (Q n)) e.1.size (Sz E n) (IB E F hs)
def N8(E:Ds m v cb U b d a i ob K L W)(F:Fc v cb U o st u){f}(s:Di y7 n m f h u e){c}(g:(Jp v.1.size cb ob a.ownBlock)[c]?=lj x):Q (nB E F s) c=Q n x:=Wa Aj
def Ab0(E:Ds m v cb U b d a i ob K L W)(F:Fc v cb U o st u){c}(s:Di y7 n m c h u e):Bn (nB E F s) (GM 9 13 11 12 10 8 U (Jd 14 (I5 ob K (iK W) L)))=GM (Q n (iL v.1+4)) (Q n (iL v.1+3)) (Q n v.1.size) (Q n (iL v.1+1)) (Q n (iL v.1+2)) (Q n cb) U (Az n (I5 ob K (iK W) L)):=by
 rw[NM,N8 E F s iI,N8 E F s iI,N8 E F s iI,N8 E F s iI,N8 E F s iI,N8 E F s iI,←Aj3 n _ (iK W) λX f=>N8 E F s (IC f)]
def VL(E:Ds m v cb U b d a i ob K L W)(F:Fc v cb U o st u){q}(p:Iu (Iq u v.1.size cb U b d ob a) q)(l:¬TR U q):∃g x j,q=.cell (iD g j)/\(Jp v.1.size cb ob a.ownBlock)[g]?=lj x/\Iu u (.cell (iD x j))/\((x=cb/\(j=U∨j=U+1))∨ob=lj x∨a.ownBlock=lj x)/\x<iL v.1:=by
 cases q with
 |cell w=>
  obtain⟨y,e⟩:=p;obtain⟨g,j,k⟩:=w;cases k with
  |some s=>
   exfalso;unfold ur at e;cases h:(Iq u v.1.size cb U b d ob a).1[g]? with
   |none=>simp[h]at e
   |some A=>grind
  |none=>
   have X:=Ki e;have c:(Iq u v.1.size cb U b d ob a).1[g]?=lj (Iq u v.1.size cb U b d ob a).1[g]:=aO X;obtain⟨x,Z,O⟩:=Uo c;have t:=bA Z;rw[O]at c;unfold V9 at c;by_cases M:x=cb
   ·rw[aL M]at c;subst M;have V:g=8:=idx_eq (Q9 E) Z iI;subst V;rw[Ci c]at e;have Y:=(aG.1 e).1;rw[Rz]at Y;refine⟨8,x,j,iI,Z,⟨d[j],?_⟩,r7 ⟨iI,(cH λz=>l (r7 ⟨j,iI,λf=>z (r7 f),λf=>z (kr f)⟩))⟩,E.cbN⟩
    ·rw[Ci (F.K.get E.blk λp=>p)];exact aO Y
   ·rw[aM M]at c;by_cases J:x=iL v.1+2
    ·rw[aL J]at c;unfold ur at e;simp[c]at e
    ·rw[aM J]at c;obtain⟨B,f,n,r⟩:=Un E F t J;rw[r]at c;simp only[aY]at c;split at c
     ·simp only[Sh]at c;rw[Ci c]at e;simp at e
     ·rename_i I;rw[Ci c]at e;exact⟨g,x,j,iI,Z,⟨y,by rwa[Ci r]⟩,kr (Yo E t I M),Aa⟩
 |obj C=>
  exfalso;obtain⟨A,O,S⟩:=p;obtain⟨x,Z,rfl⟩:=Uo O;by_cases J:x=iL v.1+2
  ·subst J;have:C=10:=idx_eq (Q9 E) Z iI;subst this;exact l (kr iI)
  ·obtain⟨B,f,n,r⟩:=Un E F (bA Z) J;unfold V9 at S;rw[aM J,r]at S;split at S
   ·exact S _ _ _ iI
   ·split at S
    ·exact S _ _ _ iI
    ·exact S _ _ _ iI
 |_=>exact p.elim
def Ms{p}(s:Di y7 n m (H.Own p) h u e){l}(a:Iu u l)(b:¬m l):=(s.own l a b).1
def Ado{J d g}(s:Di y7 n J d g u w)(E:H.Kept w){i}{c:gY}{e m}(Y:u.1[i]?=lj (oh c e m))(M:c≠#[])(p:∀j,¬J (.cell (iD i j)))(t:∀j,j<c.size->¬H.In (.cell ⟨Q n i,j,jh⟩)){l}(K:M9 (Q n i) l):¬H.In l:=λV=>by
 have W:=s.row Y M p;cases l with
 |cell a=>
  obtain⟨x,Z⟩:=H.ex a V;have D:a.block=Q n i:=K;rw[←E.cell a V]at Z;obtain⟨b,j,k⟩:=a;simp only at D;subst D;unfold ur at Z;rw[W]at Z;cases k with
  |some q=>simp at Z
  |none=>
   grind
 |obj r=>
  obtain⟨o,O,z⟩:=H.5 r V;have f:=E.obj r o V O z;rw[K,W]at f;exact z _ _ _ (aB f).symm
 |_=>exact K.elim
def Alz(E:Ds m v cb U b d a i ob K L W)(F:Fc v cb U o st u)(s:Di y7 n m (H.Own p) h u e):Di y7 (nB E F s) (TR U) ((LE n v.1.size H.In p k).B (KBE (Iq u v.1.size cb U b d ob a) U (nB E F s))) (GM 9 13 11 12 10 8 U (Jd 14 (I5 ob K (iK W) L))) (Iq u v.1.size cb U b d ob a) e:=by
 have C:(Iq u v.1.size cb U b d ob a).1.size=14+iK ob.toList+iK a.ownBlock.toList:=Lu;refine Di.ofList (Sz E n) (IB E F s) (by rw[C,bV,Yn]) (s.sm 0).tape (s.sm 0).drawn (s.sm 0).os (s.sm 0).output (λg I y V O=>?_) (λg V=>?_) ⟨λg y O=>Ahk E F O,?_⟩ λM r l=>?_
 ·obtain⟨x,Z,rfl⟩:=Uo O;rw[aS,Z]at V;obtain rfl:=aB V;exact YC E F s (n':=nB E F s) (λh G=>N8 E F s (ID G)) Z
 ·have f:(Jp v.1.size cb ob a.ownBlock)[g]?=lj g:=by
   match g,V with
   |0,_|1,_|2,_|3,_|4,_|5,_|6,_|7,_=>rfl
  rw[aS,f,aI,show Q n g=g from s.fix g V]
 ·rw[C,NM,Im Aa,Im Aa,Im Aa,Im Aa,Im Aa,Im Aa,Aj2 _ Aa]
 ·obtain⟨g,x,q,rfl,Z,P,j,A⟩:=VL E F r l;have t:Ge (nB E F s) (.cell (iD g q))=.cell ⟨Q n x,q,jh⟩:=by simp only[Ge,Ei,N8 E F s Z]
  refine⟨⟨_,r,l,iI⟩,?_⟩
  show _/\_;have z:Ge (Ren.ofList ((Jp v.1.size cb ob a.ownBlock).map (Q n)) e.1.size (Sz E n) (IB E F s)) (.cell (iD g q))=.cell ⟨Q n x,q,jh⟩:=t;rw[z];have w:¬m (.cell (iD x q)):=by
   rcases j with⟨rfl,_⟩|j|j
   ·exact E.jn.cb q
   ·exact E.jn.ob j q
   ·exact E.jn.pg j q
  refine⟨?_,?_,Ad,(Ms (l:=.cell (iD x q)) s P w)⟩
  ·rintro(⟨B,f,c⟩|c)
   ·cases f;rcases c with c|c|c<;>(have J:=Gq c;omega)
   ·exact(s.own (.cell (iD x q)) P w).2 c
  ·rintro⟨B,f,D⟩;cases f;have:=Gq D;omega
def Aly(E:Ds m v cb U b d a i ob K L W)(F:Fc v cb U o st u)(s:Di y7 n m (H.Own p) h u e){R}(G:Bn (.up u.1.size) R=R):Di y7 n (OQ m cb U v.1.size) ((LE n v.1.size H.In p k).A (KBE (Iq u v.1.size cb U b d ob a) U (nB E F s))) R (Bb (Ls v.1.size ob a.ownBlock) u) e:=by
 have C:Di y7 n (OQ m cb U v.1.size) (λl=>H.Own p l/\l≠.cell ⟨Q n cb,U,jh⟩/\l≠.cell ⟨Q n cb,U+1,jh⟩/\l≠.obj (Q n (iL v.1+2))) R u e:=by
  refine s.less (λl f=>kr f) G λl D j O=>⟨O,λc=>j (r7 (r7 ?_)),λc=>j (r7 (kr (r7 ?_))),λc=>j (r7 (kr (kr ?_)))⟩
  ·exact Eqj
  ·exact Eqj
  ·cases l with
   |obj I=>simp only[Ge,Loc.obj.injEq]at c;rw[Gq c]
   |_=>simp[Ge]at c
 refine C.hide (λg V=>?_) G λl O z=>⟨?_,?_,?_,O.2.2.2,O.1.1⟩
 ·rcases V with rfl|rfl|rfl|rfl|V|V
  ·exact⟨_,_,_,F.3⟩
  ·exact⟨_,_,_,F.4⟩
  ·exact⟨_,_,_,F.6⟩
  ·exact⟨_,_,_,F.b4⟩
  ·obtain⟨w,c,A,f,_⟩:=Qd E (r7 V);exact⟨w,c,A,F.K.get f λf=>f⟩
  ·obtain⟨w,c,A,f,_⟩:=Qd E (kr V);exact⟨w,c,A,F.K.get f λf=>f⟩
 ·rintro⟨J,B,j,rfl⟩;obtain⟨g,x,q,rfl,Z,P,r,M⟩:=VL E F B j;have t:Ge (nB E F s) (.cell (iD g q))=.cell ⟨Q n x,q,jh⟩:=by simp only[Ge,Ei,N8 E F s Z]
  rw[t]at O z;rcases r with⟨rfl,rfl|rfl⟩|r|r
  ·exact O.2.1 iI
  ·exact O.2.2.1 iI
  ·exact z x (kr (kr (kr (kr (r7 r))))) iI
  ·exact z x (kr (kr (kr (kr (kr r))))) iI
 ·rintro(⟨y,rfl,f|f|f⟩|f)
  ·exact z _ (r7 iI) f
  ·exact z _ (kr (r7 iI)) f
  ·exact z _ (kr (kr (r7 iI))) f
  ·exact O.1.2 f
 ·rintro⟨y,rfl,c⟩;exact z _ (kr (kr (kr (r7 iI)))) c
end
structure Se(J:gW)(u:gk)(kind g T):Prop where
 ex:∃o,(u.cell? ⟨4,kind,jh⟩=lj (qh (lj (iD g o)) (iK T) (iK T))/\¬J (.cell ⟨4,kind,jh⟩))/\∀j (x:Tl),T[j]?=lj x->(u.cell? ⟨g,o+j * 3,jh⟩=lj (iE x.1)/\u.cell? ⟨g,o+j * 3+1,jh⟩=lj (gd x.2.1)/\u.cell? ⟨g,o+j * 3+2,jh⟩=lj (iE x.2.2))/\¬J (.cell ⟨g,o+j * 3,jh⟩)/\¬J (.cell ⟨g,o+j * 3+1,jh⟩)/\¬J (.cell ⟨g,o+j * 3+2,jh⟩)
def TT(kind:Nat):List Tl:=match kind with
 |1=>[(0,sd,1),(1,km,4)]
 |2=>[(0,sd,2),(1,sd,2),(1,km,4)]
 |_=>[(0,sd,3)]
def TlU(gN:Nat)(J:gW)(u:gk):Prop:=∀kind,kind=1∨kind=2∨kind=3->∃g,g<gN/\Se J u kind g (TT kind)
section
variable {J:gW}
def Ax.trans'{H E Y}(h:Ax w H X)(c:Ax H E Y)(a:∀j,Y j->j<iL w.1->X j):Ax w E X:=
 ⟨c.os.trans h.os,c.tape.trans h.tape,c.output.trans h.output,aE h.size c.size,λj V Z=>(c.block j (aA V h.size) λU=>Z (a j U V)).trans (h.block j V Z)⟩
def Se.kx{kind X}(h:Se J u kind g T)(K:Ax u O X)(q:4<iL u.1/\¬X 4)(G:g<iL u.1/\¬X g):Se J O kind g T:=by
 have ⟨o,⟨C,b⟩,c⟩:=h.ex;refine⟨o,⟨(Cg (K.block 4 q.1 q.2)).trans C,b⟩,λj x Z=>?_⟩;have ⟨⟨m,a,S⟩,n⟩:=c j x Z;exact⟨⟨(Cg (K.block g G.1 G.2)).trans m,(Cg (K.block g G.1 G.2)).trans a,(Cg (K.block g G.1 G.2)).trans S⟩,n⟩
def TlU.kx{X}(h:TlU y J u)(K:Ax u O X)(o:8<=y)(N:y<=iL u.1)(t:∀i,X i->y<=i):TlU y J O:=λkind E=>by
 have ⟨g,G,V⟩:=h kind E;exact⟨g,G,V.kx K ⟨Aa,λh=>by have:=t 4 h;omega⟩ ⟨Aa,λh=>by have:=t g h;omega⟩⟩
def UR{w}{x:Tl}(c0:w.cell? (iD g C)=lj (iE x.1))(Q:w.cell? ⟨g,C+1,jh⟩=lj (gd x.2.1))(R:w.cell? ⟨g,C+2,jh⟩=lj (iE x.2.2))(l:¬J (.cell (iD g C))/\¬J (.cell ⟨g,C+1,jh⟩)/\¬J (.cell ⟨g,C+2,jh⟩))(T)(k:Nat)(O:T.op=.load 288 (.tmp k))(a:Act)(E:a.eval (.tmp k)=pdw (lj (iD g C))):Go.Pair.Yields y7 (execOp a.eval T) w (faj #[iE x.1,gd x.2.1,iE x.2.2]) w/\∀e∈(execOp a.eval T).events y7 w #[],Ff J e:=by
 unfold execOp;rw[O];simp only[E];refine⟨r7 ?_,λe N=>?_⟩
 ·go_simp
 ·simp[go_sem,c0,Q,R]at N;rcases N with rfl|rfl|rfl
  ·exact Cl l.1
  ·exact Cl l.2.1
  ·exact Cl l.2.2
def Afo{x:Tl}(h:w.1[g]?=lj (oh #[iE 0,gd sd,iE 0] 288))(l:∀k,¬J (.cell (iD g k)))(T)(O:T.op=.store 288 (.tmp 9) (.tmp 22))(a:Act)(f:a.eval (.tmp 9)=iB g)(L:a.eval (.tmp 22)=faj #[iE x.1,gd x.2.1,iE x.2.2]):(∀d,Go.Pair.Yields y7 (execOp a.eval T) (w.at d) qp ((((w.setCell (iC g) (iE x.1)).setCell (iD g 1) (gd x.2.1)).setCell (iD g 2) (iE x.2.2)).at d))/\∀d,∀e∈(execOp a.eval T).events y7 (w.at d) #[],Ff J e:=by
 refine⟨λd=>kr ⟨?_,iI⟩,λd=>?_⟩
 all_goals
  have ⟨y,m,n⟩:=Jh (W:=w.at d) h iI;have ⟨Q,D,K,_⟩:=Gu (W:=w.at d) h;unfold execOp;rw[O];simp only[f,L]
 ·go_simp;simp only[at_set]
 ·intro e N;simp[go_sem,y,m,n,Q,D,K,gog _ _ _ _ (Value.bool _) lc2 iI,storedEv]at N;rcases N with rfl|rfl|rfl<;>exact Cl (l _)
def Nk{w o}{p:gU}(h:w.1[g]?=lj (oh #[iE s,pc p,iE o] 189))(l:∀k,¬J (.cell (iD g k)))(T)(k:Nat)(O:T.op=.load 189 (.tmp k))(a:Act)(E:a.eval (.tmp k)=iB g):Go.Pair.Yields y7 (execOp a.eval T) w (Fo s p o) w/\∀e∈(execOp a.eval T).events y7 w #[],Ff J e:=by
 have ⟨c0,Q,R⟩:=Jh h iI;unfold execOp;rw[O];simp only[E];refine⟨r7 ?_,λe N=>?_⟩
 ·go_simp
 ·simp[go_sem,c0,Q,R]at N;rcases N with rfl|rfl|rfl<;>exact Cl (l _)
def OD{s o p}(h:w.1[g]?=lj (oh #[iE 0,pc iG,iE 0] 189))(l:∀k,¬J (.cell (iD g k)))(T){i j:Nat}(O:T.op=.store 189 (.tmp i) (.tmp j))(a:Act)(f:a.eval (.tmp i)=iB g)(L:a.eval (.tmp j)=Fo s p o):(∀d,Go.Pair.Yields y7 (execOp a.eval T) (w.at d) qp ((((w.setCell (iC g) (iE s)).setCell (iD g 1) (pc p)).setCell (iD g 2) (iE o)).at d))/\∀d,∀e∈(execOp a.eval T).events y7 (w.at d) #[],Ff J e:=by
 refine⟨λd=>kr ⟨?_,iI⟩,λd=>?_⟩
 all_goals
  have ⟨y,m,r⟩:=Jh (W:=w.at d) h iI;have ⟨Q,D,K,_⟩:=Gu (W:=w.at d) h;unfold execOp;rw[O];simp only[f,L]
 ·go_simp;simp only[at_set]
 ·intro e N;simp[go_sem,y,m,r,Q,D,K,gog _ _ _ _ (Value.string _) lc2 iI,storedEv]at N;rcases N with rfl|rfl|rfl<;>exact Cl (l _)
noncomputable def TL(b:Nat)(s:Int)(cb:Nat)(ev:uo)(g o m j:Nat)(f:hQ):Act:=⟨#[.map (lj b),iE s,f 2,f 3,f 4,iB cb,f 6,ev,f 8,f 9,f 10,f 11,f 12,f 13,f 14,f 15,f 16,qh (lj (iD g o)) m m,iE m,iE j,f 20,f 21,f 22,f 23,f 24,f 25,f 26,f 27,f 28,f 29,f 30,f 31,f 32,f 33,f 34,f 35,f 36,f 37,f 38,f 39,f 40,f 41,f 42,f 43,f 44,f 45,f 46,f 47,f 48,f 49,f 50,f 51],[]⟩
def Amf{b cb o m a}(h:a=TL b s cb H g o m j (λj=>a.tmps.getD j qp)):∃f,a=TL b s cb H g o m j f:=⟨_,h⟩
end
set_option maxRecDepth 100000 in
def Afi{z W B J Y}(y)(h:y 16=.func (.func 62) #[] #[iB W,iB B,iB J,iB Y])(w):stepG y7 km (G ((base 46).at (Ke y) [.inRegion MO [1],.code Vo]) z) w=.spawn (GG z y) (born y7 (call62 W B J Y)) w #[]:=by
 simp only[Code.opsOf,MO,r6,J7,Code.core,Code.one,Code.two,f46,aY];rw[stepG_spawn iI Ac Ae (d:=call62 W B J Y) (w':=w) (f:=.func 62) (c:=#[iB W,iB B,iB J,iB Y]) (by simp[go_sem,execOp,resolve,k9,euo,Ke,call62,h]) iI];rw[listed_nil (by simp[go_sem,execOp,resolve,k9,euo,Ke,h])]
 rfl
section
variable {H:E2} {cb:Nat} {i:gT} {ob:hY} {n:Ren} {e:gk} {p:gW} {q:gT} {cp:gY} {I:List (gT)->gk->Prop} {Y:iA}
def bbW(ob:hY):Nat:=if ob=jh then 13 else 14
@[reducible] noncomputable def DE(m In:gW)(n:Ren)(e u:gk)(p:gW)(k N cb U:Nat)(b:q9)(d:gY)(ob:hY)(a:uo)(q:gT)(t:Bool)(f:x8)(cp:gY)(z:List qq)(I:List (gT)->gk->Prop):M8:=
 JQ (LE n N In p k) (N+2) (N+4) 10 9 (N+5) (14+iK ob.toList+iK a.ownBlock.toList) (Q n) (λi=>((Jp N cb ob a.ownBlock).map (Q n)).getD i 0) e e.1.size (OQ m cb U N) (TR U) (JS (N+4) (N+2) f cp (iB N) z I)
  (TQ (TR U) (· = 8) (Iq u N cb U b d ob a) (a.ownBlock.map λ_=>Te ob) 8 U (bbW ob) 9 10 q t)
def Amk{B c}(E:Ds m v cb U b d a i ob K L W)(F:Fc v cb U B c u)(s:Di y7 n m (H.Own p) h u e)(f:H.Shd e p n){l}(g:Gw (Q n (iL v.1+4)) l):¬H.In l:=by
 obtain⟨q,rfl,k⟩:=g;refine Ado s f.kept F.b4 Ad (λj=>E.jn.new Aa j) (λj o=>?_) k;exact(s.own (.cell ⟨iL v.1+4,j,jh⟩) ⟨_,((Ci F.b4 j).trans (aO o))⟩ (E.jn.new Aa j)).2
def Anp(F:Ds m v cb U b d a i ob K L W)(J:Fc v cb U (I5 ob K (iK W) L) KK u)(s:Di y7 n m (H.Own p) h u e)(r:H.Shd e p n)(G:0<k):(DE m H.In n e u p k v.1.size cb U b d ob a q t f cp (fr::cs) I).Ok:=by
 have lt:∀o,o<5->Q n (iL v.1+o)<iL e.1:=λo V=>(s.sm 0).lt _ (by rw[J.size];omega);have w:∀o(c:Addr),c.block=Q n o->o≠iL v.1+4->¬Gw (Q n (iL v.1+4)) (.cell c):=λo c y V⟨E,z,A⟩=>by
  cases z;exact V (Gq (y.symm.trans A))
 refine⟨⟨G,λl x B=>?_,(Ms (l:=.obj (iL v.1+2)) s ⟨_,J.b2,λ_ _ _ z=>by cases z⟩ (F.jn.obj _)),λl Y=>?_⟩,λz=>by have:=Gq z;omega,lt 4 Aa,lt 2 Aa,r.low,λl Y=>?_,λo j D=>?_,r7 (kr (kr iI)),λC Y=>?_,λC Y=>?_,λM o N=>by simp[Ei]⟩
 ·obtain⟨c,rfl,z⟩:=x;exact(Ms (l:=.cell ⟨iL v.1+4,0,jh⟩) s ⟨_,cellOf (j:=0) J.b4 iI⟩ (F.jn.new Aa 0)) (r.blk.cell c _ B z.symm)
 ·rcases Y with⟨c,rfl,g|g|g⟩|V
  ·exact⟨w _ c g Aa,Ad,λB=>(Ms (l:=.cell (iC v.1.size)) s ⟨_,cellOf (j:=0) J.3 iI⟩ (F.jn.new (aC _) 0)) (r.blk.cell c _ B g.symm)⟩
  ·exact⟨w _ c g Aa,Ad,λB=>(Ms (l:=.cell ⟨iL v.1+1,0,jh⟩) s ⟨_,cellOf (j:=0) J.4 iI⟩ (F.jn.new Aa 0)) (r.blk.cell c _ B g.symm)⟩
  ·exact⟨w _ c g Aa,Ad,λB=>(Ms (l:=.cell ⟨iL v.1+3,0,jh⟩) s ⟨_,cellOf (j:=0) J.6 iI⟩ (F.jn.new Aa 0)) (r.blk.cell c _ B g.symm)⟩
  ·refine⟨λx=>Amk F J s r x V,λz=>?_,λZ=>r.off l Z V⟩;rw[z]at V;exact(s.own (.obj (iL v.1+2)) ⟨_,J.b2,λ_ _ _ z=>by cases z⟩ (F.jn.obj _)).2 V
 ·rcases Y with⟨c,rfl,g|g|g⟩|V
  ·show c.block<_;rw[g];exact lt 0 Aa
  ·show c.block<_;rw[g];exact lt 1 Aa
  ·show c.block<_;rw[g];exact lt 3 Aa
  ·exact r.kept.low V
 ·rcases D with⟨_,z,_⟩|z
  ·cases z;show 8<14+_+_;omega
  ·cases z
 ·rcases Y with(z|z|z)|z
  ·cases z
  ·cases z
  ·cases z;rfl
  ·exact(F.jn.obj _ z).elim
 ·rcases Y with⟨_,z,_⟩|z
  ·cases z
  ·cases z;rfl
def QY(E:Ds m v cb U b d a i ob K L W){B c}(F:Fc v cb U B c u):Plain (Iq u v.1.size cb U b d ob a):=λe o O=>by
 obtain⟨x,Z,rfl⟩:=Uo O;unfold V9;split
 ·trivial
 ·split
  ·trivial
  ·rename_i J;have ⟨f,g,h,Y⟩:=Un E F (bA Z) J;rw[Y];split<;>trivial
def Af2(b:a=.func (.func f) #[] cp)(N B):Yk (N+4) (N+2) f cp (iB N) (yR cb U N B a):=⟨b,iI,iI,iI⟩
def Apo{B z j}(b:Bn (.up M) (G ((base 46).at (Ke (yE cb U v.1.size B a (js #[]) (Pu v.1.size))) j) z)=G ((base 46).at (Ke (yE cb U v.1.size B a (js #[]) (Pu v.1.size))) j) z)(c:iL v.1+5<=M):Bn (.up M) (Gb [.code Ku] z (yR cb U v.1.size B a))=Gb [.code Ku] z (yR cb U v.1.size B a):=by
 rw[Ep,Gn,Ys]at b;have S:z.map _=z:=aJ jzb b;have L:(Ke λi=>Az _ _).tmps=(Ke _).tmps:=aJ (λh:vr=>h.frame.tmps) b;rw[Mr,S];unfold Gb
 congr 2
 simp[Ke,yE]at L;simp[Ke,yR,yE,L]
end
def Akw(kind:Nat)(E:kind<4)(w):(Instr.indexAt 286 (pdw (lj ⟨4,0,jh⟩)) (iE kind)).events y7 w #[]=#[]/\(Instr.indexAt 286 (pdw (lj ⟨4,0,jh⟩)) (iE kind)).run y7 w=.ok (pdw (lj ⟨4,kind,jh⟩)) w:=by
 match kind,E with
 |0,_=>exact⟨Ab,Ab⟩
 |1,_=>exact⟨Ab,Ab⟩
 |2,_=>exact⟨Ab,Ab⟩
 |3,_=>exact⟨Ab,Ab⟩
noncomputable def TL2(b:Nat)(s:Int)(cb:Nat)(ev:uo)(g o m j tb:Nat)(pth:gU)(f:hQ):Act:=⟨#[.map (lj b),iE s,f 2,f 3,f 4,iB cb,f 6,ev,f 8,iB tb,pc pth,f 11,f 12,f 13,f 14,f 15,f 16,qh (lj (iD g o)) m m,iE m,iE j,f 20,f 21,f 22,f 23,f 24,f 25,f 26,f 27,f 28,f 29,f 30,f 31,f 32,f 33,f 34,f 35,f 36,f 37,f 38,f 39,f 40,f 41,f 42,f 43,f 44,f 45,f 46,f 47,f 48,f 49,f 50,f 51],[]⟩
def Aji{b cb o m c D a}(h:a=TL2 b s cb H g o m j c D (λj=>a.tmps.getD j qp)):∃f,a=TL2 b s cb H g o m j c D f:=⟨_,h⟩
section
variable {J:gW}
def Aft(az:VW J c u)(b s kind)(hk:kind<4)(i g n v l L)(hT:iK L<=3)(ep:b≠4)(dd:b≠l)(ks)(Z:Lf u b ks)(de:ks.Nodup)(nb:¬c b)(dg:Se J u kind l L)(h4:4<iL u.1)(hg:l<iL u.1)(hs:(Lit.int gh s).wf=km)(dh:∀x∈L,(Lit.int gh x.1).wf=km)(hq:i.size<=1000)(di:Eb i=km):Bg y7 km J F 191 #[.map (lj b),iE s,M3 kind i g n v] u λov u'=>VW J c u'/\Ax u u' (· = b)/\Lf u' b (En s i L ks).2/\u'.ownsRow u.1.size 266 2 ov (En s i L ks).1.length (OT (En s i L ks).1):=by
 have dj:=Bi.lt Z;obtain⟨o,⟨dk,dm⟩,dp⟩:=dg.ex;have er:(kind:Int)<4:=Aa;have nr:¬c u.1.size:=λZ=>by have:=az.lt Z;omega
 have jr:∀k,¬J (.cell (iD u.1.size k)):=λk Z=>nr (az.2 _ Z);have dq:∀X,J (.obj X)->¬X=b:=λX Y m=>by
  obtain⟨o,ho,dr⟩:=az.3 X Y;obtain⟨es,cl,hb⟩:=Z.ex;rw[m,hb.1]at ho;cases ho;cases dr
 obtain⟨RR,c8⟩:∃R,En s i L ks=R:=⟨_,iI⟩;rw[c8];refine Bl func191 Ac iI (R:=λbn=>bn.getD 6 qp) (λ_ _=>zx Ac _ _ _) (λ_ _=>vk3 Ac _ _) ?_;simp only[ntmps191,na,Nat.reduceAdd,Nat.reduceSub];refine Wqw ?_;refine Dk (Du kind i g n v) 152 ?_;walk_nrm;refine Keu ?_;have ai:=Ba u (Du kind i g n v) 152 iH;have a1:=az.alloc (Du kind i g n v) 152;have bd:(u.alloc (oh (Du kind i g n v) 152)).1[iL u.1]?=lj (oh (Du kind i g n v) 152):=iw _ _;generalize u.alloc (oh (Du kind i g n v) 152)=P at ai a1 bd⊢;refine Wqw ?_;refine Keu ?_;refine M8j ?_;refine Tfz ?_;refine Bp (cellOf (j:=0) bd iI) (jr 0) ?_;walk_nrm;have bo:=Akw kind hk;refine Gl (S:=env Lv) (x:=pdw (lj ⟨4,kind,jh⟩)) iI Ac (B7 Ab) (A6 _ _) (λw=>by have O:=(bo w).2;go_simp) (λw=>by have O:=(bo w).1;have H:=(bo w).2;simp[go_sem,O,H]) ?_;walk_nrm;refine Bp ((Cg (ai.block 4 h4 id)).trans dk) dm ?_;walk_nrm;refine Wad ?_;refine Ro8 ?_;refine Dr ?_;refine Mv (n:=iK L) (I:=λt c9 w=>∃(j:Nat) (ev:uo) (a:List (Int×gU)) (V:gZ),t+j=iK L/\(∃f,c9=TL b s u.1.size ev l o (iK L) j f)/\VW J c w/\(iK a<=j/\V.Nodup/\(a++(En s i (L.drop j) V).1,(En s i (L.drop j) V).2)=RR)/\w.ownsRow P.1.size 266 2 ev (iK a) (OT a)/\Ax P w (· = b)/\Lf w b V) ?_ ?_
 case refine_2=>exact⟨0,_,[],ks,Aa,Amf iI,a1,⟨aC _,de,by simpa using c8⟩,World.ownsRow_nil _ _ _ _,Ax.refl _ _,Z.keep (ai.block _ dj id)⟩
 rintro t c9 w⟨j,ev,a,V,et,⟨f,rfl⟩,Ww,⟨eu,bq,Q⟩,Jc,Kw,b9⟩;unfold TL;have ba:Ax u w (· = b):=(ai.mono λ_ Z=>Z.elim).trans Kw;have dt:=ltOf bd;by_cases hj:j<iK L
 case neg=>
  refine Wqw ?_;refine Xol ?_;refine Ro8 ?_;refine Aw ?_;refine Z2x ?_;refine Wqw ?_;refine Wad ?_;refine Ro8 ?_;rw[gA Aa]at Q;simp only[En,bZ]at Q;rw[←Q];exact Dt ⟨kr iI,iI,Ww,ba,b9,Ad7 Jc (eL dt)⟩
 case pos=>
 obtain⟨x,z⟩:∃x,L[j]?=lj x:=⟨_,aH hj⟩;obtain⟨⟨c0,c1,c2⟩,cc⟩:=dp j x z;have br:¬l=b:=λm=>dd m.symm;have e0:w.cell? ⟨l,o+j * 3,jh⟩=lj (iE x.1):=(Cg (ba.block l hg br)).trans c0;have e1:w.cell? ⟨l,o+j * 3+1,jh⟩=lj (gd x.2.1):=(Cg (ba.block l hg br)).trans c1;have e2:w.cell? ⟨l,o+j * 3+2,jh⟩=lj (iE x.2.2):=(Cg (ba.block l hg br)).trans c2;have du:=dh x (bA z);have dv:L.drop j=x::L.drop (j+1):=by
  rw[eK hj]
  congr 1
  exact(aF.1 z).2
 rw[dv,En]at Q;obtain⟨D,bf⟩:∃D,Mt i x.2.1=D:=⟨_,iI⟩;rw[bf]at Q;have dw:D.size<=1000:=by
  rw[←bf];unfold Mt;split
  ·unfold Ej;split
   ·decide
   ·rw[dI];omega
  ·exact hq
 have ew:(j:Int)<(iK L:Int):=Aa;have ey:IntKind.i64.wrap ((j:Int)+1)=((j+1:Nat):Int):=by simp[IntKind.wrap,IntKind.bits,IntKind.signed];omega
 refine Wqw ?_;refine Ree ?_;refine Wqw ?_;refine Cd (pdw (lj ⟨l,o+j * 3,jh⟩)) ?_;walk_nrm;refine Cy (S:=env Lv) (fn:=191) iI Ac (B7 Ab) (A6 _ _) (x:=faj #[iE x.1,gd x.2.1,iE x.2.2]) (v':=w) (λy=>(UR (J:=J) (w:=w.at y) e0 e1 e2 cc _ _ iI _ Ac).1) (λy=>(UR (J:=J) (w:=w.at y) e0 e1 e2 cc _ _ iI _ Ac).2) ?_;walk_nrm;refine Dk #[iE 0,gd sd,iE 0] 288 ?_;walk_nrm;have K2:=Ba w #[iE 0,gd sd,iE 0] 288 iH;have W2:=Ww.alloc #[iE 0,gd sd,iE 0] 288;have b2:(w.alloc (oh #[iE 0,gd sd,iE 0] 288)).1[iL w.1]?=lj (oh #[iE 0,gd sd,iE 0] 288):=iw _ _;generalize w.alloc (oh #[iE 0,gd sd,iE 0] 288)=ab at K2 W2 b2⊢;have nn:¬c w.1.size:=λZ=>by have:=Ww.lt Z;omega
 have U:∀k,¬J (.cell (iD w.1.size k)):=λk Z=>nn (az.2 _ Z);have a6:=Afo (J:=J) (x:=x) b2 U;refine Cy (S:=env Lv) (fn:=191) iI Ac (B7 Ab) (A6 _ _) (x:=qp) (v':=((ab.setCell (iC w.1.size) (iE x.1)).setCell (iD w.1.size 1) (gd x.2.1)).setCell (iD w.1.size 2) (iE x.2.2)) (a6 _ iI _ Ac Ac).1 (a6 _ iI _ Ac Ac).2 ?_;walk_nrm;have a8:Br ab (((ab.setCell (iC w.1.size) (iE x.1)).setCell (iD w.1.size 1) (gd x.2.1)).setCell (iD w.1.size 2) (iE x.2.2)) w.1.size #[iE x.1,gd x.2.1,iE x.2.2] 288:=(((Br.refl b2).set 0 _).set 1 _).set 2 _;have W3:VW J c (((ab.setCell (iC w.1.size) (iE x.1)).setCell (iD w.1.size 1) (gd x.2.1)).setCell (iD w.1.size 2) (iE x.2.2)):=((W2.set _ _ _).set _ _ _).set _ _ _;generalize ((ab.setCell (iC w.1.size) (iE x.1)).setCell (iD w.1.size 1) (gd x.2.1)).setCell (iD w.1.size 2) (iE x.2.2)=w3 at a8 W3⊢;have cd:Ax w w3 iH:=K2.trans' (Ax.of_grown (X:=(· = iL w.1)) a8.grown (r7 iI)) λj hj Ib=>Aa;have b3:=a8.blk;have dx:w3.1[iL u.1]?=lj (oh (Du kind i g n v) 152):=cd.get (Kw.get bd Aa) id;refine Ro8 ?_;refine Wqw ?_;refine V2g ?_;refine Bp (cellOf (j:=1) dx iI) (jr 1) ?_;walk_nrm;refine Keu ?_;refine Aw ?_;refine Da (Q:=λm a' w'=>m=.normal/\(∃f',a'=TL2 b s u.1.size ev l o (iK L) j w.1.size D f')/\VW J c w'/\Ax w3 w' iH) ?_ ?_
 ·refine Wqw ?_;refine V2g ?_;refine Bp (cellOf (j:=1) b3 iI) (U 1) ?_;walk_nrm;refine Ro8 ?_;cases cf:x.2.1 with
  |false=>
   refine Ve5 ?_;obtain rfl:i=D:=by simpa[Mt,cf] using bf
   exact⟨trivial,Aji iI,W3,Ax.refl _ _⟩
  |true=>
   refine N5y ?_;refine Tfz ?_;refine A2 (Gg (f:=180) (args:=#[pc i]) Ae W3 (X:=λ_=>False) (R:=λq _=>q=pc D) (λ_ _ Z=>Z) λN hs=>(Tc N i Aa di).mono λm w' Z=>⟨⟨_,Z.1,by rw[←bf,cf];rfl⟩,by rw[Z.2];exact Ax.refl _ _⟩) iI Ac iI Af ?_;rintro q E⟨b6,e,_,_,_,rfl⟩;walk_nrm;refine Keu ?_;exact⟨trivial,Aji iI,e,b6⟩
 rintro m a' E⟨rfl,⟨f',rfl⟩,e,b7⟩;simp only[A1];unfold TL2;have b4:=b7.get b3 id;have dy:=cd.trans b7;refine Wqw ?_;refine Trb ?_;refine Bp (cellOf (j:=0) b4 iI) (U 0) ?_;walk_nrm;refine V2g ?_;refine Dk #[iE 0,pc iG,iE 0] 189 ?_;walk_nrm;have W:=Ba E #[iE 0,pc iG,iE 0] 189 iH;have ay:=e.alloc #[iE 0,pc iG,iE 0] 189;have an:(E.alloc (oh #[iE 0,pc iG,iE 0] 189)).1[iL E.1]?=lj (oh #[iE 0,pc iG,iE 0] 189):=iw _ _;generalize E.alloc (oh #[iE 0,pc iG,iE 0] 189)=ao at W ay an⊢;have aw:¬c E.1.size:=λZ=>by have:=e.lt Z;omega
 have M:∀k,¬J (.cell (iD E.1.size k)):=λk Z=>aw (az.2 _ Z);have a6:=OD (J:=J) (s:=s) (p:=D) (o:=x.1) an M;refine Cy (S:=env Lv) (fn:=191) iI Ac (B7 Ab) (A6 _ _) (x:=qp) (v':=((ao.setCell (iC E.1.size) (iE s)).setCell (iD E.1.size 1) (pc D)).setCell (iD E.1.size 2) (iE x.1)) (a6 _ iI _ Ac Ac).1 (a6 _ iI _ Ac Ac).2 ?_;walk_nrm;have aj:Br ao (((ao.setCell (iC E.1.size) (iE s)).setCell (iD E.1.size 1) (pc D)).setCell (iD E.1.size 2) (iE x.1)) E.1.size #[iE s,pc D,iE x.1] 189:=(((Br.refl an).set 0 _).set 1 _).set 2 _;have ah:VW J c (((ao.setCell (iC E.1.size) (iE s)).setCell (iD E.1.size 1) (pc D)).setCell (iD E.1.size 2) (iE x.1)):=((ay.set _ _ _).set _ _ _).set _ _ _;generalize ((ao.setCell (iC E.1.size) (iE s)).setCell (iD E.1.size 1) (pc D)).setCell (iD E.1.size 2) (iE x.1)=T at aj ah⊢;have cg:Ax E T iH:=W.trans' (Ax.of_grown (X:=(· = iL E.1)) aj.grown (r7 iI)) λj hj Ib=>Aa;have au:=aj.blk;have bu:=dy.trans cg;refine Ro8 ?_;refine Wqw ?_;refine V2g ?_;refine Cy (S:=env Lv) (fn:=191) iI Ac (B7 Ab) (A6 _ _) (x:=Fo s D x.1) (v':=T) (λy=>(Nk (J:=J) (w:=T.at y) au M _ _ iI _ Ac).1) (λy=>(Nk (J:=J) (w:=T.at y) au M _ _ iI _ Ac).2) ?_;walk_nrm;obtain⟨lk,bw⟩:=QT hs du dw;have dz:Lf T b V:=b9.keep (bu.block _ (Bi.lt b9) id);obtain⟨na,K,rfl⟩:∃na K,ev=qh na (iK a) K:=by
  rcases Jc.2 with⟨m,h0⟩|⟨l,cj,ck,m,_⟩
  ·exact⟨jh,0,by rw[m,h0]⟩
  ·exact⟨_,_,m⟩
 have bx:∀r,(qh na (iK a) K).ownBlock=lj r->iL P.1<=r:=λr d=>by
  rcases Jc.2 with⟨m,h0⟩|⟨l,cj,ck,m,S,_⟩
  ·rw[m]at d;simp[yq]at d
  ·rw[m]at d;simp[yq]at d;omega
 have bh:∀N,X4 c T N->∀fd:Bool,(fd=km↔Fo s D x.1∈V)->(Instr.lookup 92 (.map (lj b)) (Fo s D x.1) km).run y7 N=.ok (js #[faj #[],gd fd]) N:=λN hs fd al=>by
  have hL:=dz.keep (hs.same nb);cases fd with
  |true=>exact Bi.look_some km hL V3 dba bw (v:=.agg #[]) (aZ.2 ⟨_,al.1 iI,iI⟩)
  |false=>exact Bi.look_none km hL V3 dba (Air N) bw (λp hp m=>by
    obtain⟨k,hk,rfl⟩:=aZ.1 hp;simp only at m;subst m;exact absurd (al.2 hk) Ad)
 obtain⟨fd,al⟩:∃fd:Bool,fd=km↔Fo s D x.1∈V:=by
  by_cases bb:Fo s D x.1∈V
  ·exact⟨km,by simp[bb]⟩
  ·exact⟨sd,by simp[bb]⟩
 refine Dw (S:=env Lv) ah iI Ac (B7 Ab) (A6 _ _) (X:=λ_=>False) (R:=λx B=>x=js #[faj #[],gd fd]) (λ_ _ Z=>Z) (λN hs=>?_) ?_
 ·refine⟨_,N,r7 ?_,iI,Ax.refl _ _⟩;have Y:=bh N hs fd al;exact Ja7
 rintro q av aa af ak ax c7 rfl;walk_nrm;refine Trb ?_;refine Dk #[] 119 ?_;walk_nrm;have K8:=Ba av #[] 119 iH;have ar:=ak.alloc #[] 119;generalize av.alloc (oh #[] 119)=G at K8 ar⊢;refine Cy (S:=env Lv) (fn:=191) iI Ac (B7 Ab) (A6 _ _) (x:=qp) (v':=G) (λg=>kr ⟨by walk_nrm;go_simp;first|done|rfl,iI⟩) Ak3 ?_;walk_nrm;refine Keu ?_;refine Wqw ?_;refine Keu ?_;have bj:=af.trans K8;have bk:=bu.trans bj;have cm:=bj.get au id;have e3:=(cg.trans bj).get b4 id;have cn:Lf G b V:=b9.keep (bk.block _ (Bi.lt b9) id);have cp:G.ownsRow P.1.size 266 2 (qh na (iK a) K) (iK a) (OT a):=Gy Jc λr _ hl=>bk.block r hl id;cases fd with
 |false=>
  refine Ve5 ?_;have e4:Fo s D x.1∉V:=λZ=>by simp at al;exact al Z
  rw[aM e4]at Q;refine A0 ?_;refine Cd (iE ((j+1:Nat):Int)) ?_;walk_nrm;refine Keu ?_;exact⟨iK L - (j+1),Aa,j+1,_,a,V,Aa,Amf iI,ar,⟨Aa,bq,Q⟩,cp,Kw.trans (bk.mono λ_ Z=>Z.elim),cn⟩
 |true=>
  have bb:Fo s D x.1∈V:=al.1 iI;obtain⟨A,C,bm⟩:=eV bb;refine N5y ?_;refine Wqw ?_;refine V2g ?_;refine Cy (S:=env Lv) (fn:=191) iI Ac (B7 Ab) (A6 _ _) (x:=Fo s D x.1) (v':=G) (λy=>(Nk (J:=J) (w:=G.at y) cm M _ _ iI _ Ac).1) (λy=>(Nk (J:=J) (w:=G.at y) cm M _ _ iI _ Ac).2) ?_;walk_nrm;refine Dw (S:=env Lv) ar iI Ac (B7 Ab) (A6 _ _) (X:=(· = b)) (R:=λx B=>Lf B b (A++C)) dq (λN hs=>?_) ?_
  ·obtain⟨ak,ae,m7,g7⟩:=Bi.drop_some (ty:=0) (cn.keep (hs.same nb)) V3 dba bw (A:=A.map λk=>(k,faj #[])) (C:=C.map λk=>(k,faj #[])) (v:=faj #[]) (by rw[bm];simp);refine⟨js #[],ak,r7 ?_,by rw[Lf,cP];exact m7,Ax.of_grown g7 (r7 iI)⟩;exact Ewe
  rintro q h L9 ad W9 e5 ez e6;walk_nrm;refine Ro8 ?_;have cq:Lf h b (A++C):=e6.keep (e5 _ nb).symm;have fc:b<iL P.1:=by have:=ai.size;omega
  have e7:h.ownsRow P.1.size 266 2 (qh na (iK a) K) (iK a) (OT a):=Gy cp λr b8 hl=>ad.block r hl λm=>Aa;have fe:b<iL w.1:=by have:=ba.size;omega
  have a7:=ad.get e3 Aa;have cr:Ax P h (· = b):=(Kw.trans (bk.mono λ_ Z=>Z.elim)).trans ad;refine Gd2 ?_;refine Bp (cellOf (j:=2) a7 iI) (U 2) ?_;walk_nrm;refine Wad ?_;refine Cy (S:=env Lv) (fn:=191) iI Ac (B7 Ab) (A6 _ _) (x:=qh (lj (iC h.1.size)) 1 1) (v':=h.alloc (oh #[iE x.2.2,pc D] 266)) (λg=>r7 H4) Ak3 ?_;walk_nrm;have b5:=Ba h #[iE x.2.2,pc D] 266 iH;have I:=W9.alloc #[iE x.2.2,pc D] 266;have cu:(h.alloc (oh #[iE x.2.2,pc D] 266)).1[iL h.1]?=lj (oh #[iE x.2.2,pc D] 266):=iw _ _;generalize h.alloc (oh #[iE x.2.2,pc D] 266)=cw at b5 I cu⊢;have cx:cw.ownsRow P.1.size 266 2 (qh na (iK a) K) (iK a) (OT a):=Gy e7 λr _ hl=>b5.block r hl id;have e8:¬c h.1.size:=λZ=>by have:=W9.lt Z;omega
  have fg:∀r,(qh na (iK a) K).ownBlock=lj r->¬c r:=λr d hB=>by
   have:=bx r d;have:=a1.lt hB;omega
  obtain⟨i0,e9,ec,ed,ee⟩:=info_parts Tryz.info266;have ef:iL P.1<=iL cw.1:=by have:=cr.size;have:=b5.size;omega
  refine Dw (S:=env Lv) I iI Ac (B7 Ab) (A6 _ _) (X:=λbz=>(qh na (iK a) K).ownBlock=lj bz) (R:=λq B=>B.ownsRow P.1.size 266 2 q (a++[(x.2.2,D)]).length (OT (a++[(x.2.2,D)]))) (λX Y z=>?_) (λN hs=>?_) ?_
  ·obtain⟨ob,O,H⟩:=I.3 X Y;rcases cx.2 with⟨m,_⟩|⟨r,cj,ck,m,_,aq,_⟩
   ·rw[m]at z;cases z
   ·rw[m]at z;exact Spo
  ·have eg:N.ownsRow P.1.size 266 2 (qh na (iK a) K) (iK a) (OT a):=Gy cx λr b8 _=>hs.same λhB=>by have:=a1.lt hB;omega
   have eh:N.1[iL h.1]?=lj (oh #[iE x.2.2,pc D] 266):=(hs.same e8).trans cu;obtain⟨r,c',w',Y,H,h3,h4,h5⟩:=run_append_lies (P:=y7) N 263 263 P.1.size 266 i0 _ 2 24 underlying263 e9 ec ed ee iI Ae (.slice na (iK a) K) (iK a) (OT a) eg (iC h.1.size) 1 1 [iE x.2.2,pc D] iI (World.news_of_block eh) (by intro u hu;simp at hu;rcases hu with rfl|rfl<;>rfl) Aa H8 Aa (by rw[hs.size];exact ef) _ iI;refine⟨_,w',r7 ?_,by rw[QF];simpa using H,⟨h3.os,h3.tape,h3.output,h3.size,λk hk z=>h3.block k hk (λZ=>z Z.symm)⟩⟩;walk_nrm;unfold execOp;simp only[resolve,invoke,builtin,asz,Sem.run_pure,Result.andThen_ok,cG,bC,cM];walk_nrm;rw[Y]
   rfl
  rintro q c6 fh cy ei bc fi bg;walk_nrm;refine Keu ?_;have cz:(A++C).Nodup/\((a++[(x.2.2,D)])++(En s i (L.drop (j+1)) (A++C)).1,(En s i (L.drop (j+1)) (A++C)).2)=RR:=by
   have dc:=GQ (A:=A) (C:=C) (k:=Fo s D x.1) (bm▸bq);rw[aL bb,bm,dc]at Q;refine⟨?_,by simpa using Q⟩;rw[←dc];exact List.Pairwise.filter _ (bm▸bq)
  have ej:Lf c6 b (A++C):=cq.keep (by rw[cy.block b (by have:=ad.size;have:=b5.size;have:=bj.size;have:=bu.size;omega) (λm=>by have:=bx b m;omega),b5.block b (Bi.lt cq) id]);have ek:c6.ownsRow P.1.size 266 2 q (a++[(x.2.2,D)]).length (OT (a++[(x.2.2,D)])):=Gy bg λr b8 _=>(bc r λhB=>by have:=a1.lt hB;omega).symm
  have eo:Ax P c6 (· = b):=(cr.trans (b5.mono λ_ Z=>Z.elim)).trans' cy λbz hi Ib=>by have:=bx bz hi;omega
  refine A0 ?_;refine Cd (iE ((j+1:Nat):Int)) ?_;walk_nrm;refine Keu ?_;exact⟨iK L - (j+1),Aa,j+1,_,a++[(x.2.2,D)],A++C,Aa,Amf iI,ei,⟨Ah,cz.1,cz.2⟩,ek,eo,ej⟩
end
section
variable {H:E2} {cb:Nat} {i:gT} {ob:hY} {n:Ren} {p:gW} {q:gT} {h:gY} {r:List (gT)->gk->Prop} {X:qq}
noncomputable def Ajr(cb co N:Nat)(bsl clo:uo)(z:List qq):vr:=G ((base 46).at (Ke (yE cb co N bsl clo (js #[]) (Pu N))) [.inRegion MO [1],.code Vo]) z
def QD(c:Ds m v cb co b d a i ob K L W)(F:Fc v cb co (I5 ob K (iK W) L) KK u)(R:Je i W E q t)(Q:Wz i)(x:∀ms v y,r ms v->r ms (World.at v y))(A:Aat (OQ m cb co v.1.size) f h r)(D:r E (Bb (Ls v.1.size ob a.ownBlock) u))(N:Plain u)(s:Di y7 n m (H.Own p) (Ajr cb co v.1.size (I5 ob K (iK W) L) (.func (.func f) #[] h) (X::cs)) u w)(O:(DE m H.In n w u p k v.1.size cb co b d ob a q t f h (X::cs) r).Ok):∀P,(DE m H.In n w u p k v.1.size cb co b d ob a q t f h (X::cs) r).L.TI (KBE (Iq u v.1.size cb co b d ob a) co (nB c F s)) P w 0 0->∃G,JD (DE m H.In n w u p k v.1.size cb co b d ob a q t f h (X::cs) r) (Acn x O) G (GG ((X::cs).map (Bj n)) λe=>Az n (yE cb co v.1.size (I5 ob K (iK W) L) (.func (.func f) #[] h) (js #[]) (Pu v.1.size) e)) (born y7 (call62 (sh n (iL v.1+4)) (sh n (iL v.1+3)) (sh n v.1.size) (sh n (iL v.1+1)))) w P:=by
 have lt:∀e,e<5->sh n (iL v.1+e)<iL w.1:=λe V=>(s.sm 0).lt _ (by rw[F.size];omega);have I:=Aly (k:=k) c F s (Apo (z:=X::cs) s.wf.2 (by rw[F.size];exact aC _));have sb:=Alz (k:=k) c F s;have S:w.cell? ⟨sh n v.1.size,0,jh⟩=lj (pdw (lj ⟨sh n cb,co,jh⟩)):=by
  rw[s.cellW (cellOf (j:=0) F.3 iI) (c.jn.new (aC _) 0)];simp[Ei]
 have B:w.cell? ⟨sh n (iL v.1+3),0,jh⟩=lj (.chan (lj (sh n (iL v.1+2)))):=by
  rw[s.cellW (cellOf (j:=0) F.6 iI) (c.jn.new Aa 0)];simp
 have a6:13<14+iK ob.toList+iK a.ownBlock.toList:=Aa;obtain⟨z,J⟩:=Ane c F;refine JD.start (ms:=E.map rowOf) (n:=n) (n':=nB c F s) (g:=Gb [.code Ku] (X::cs) (yR cb co v.1.size (I5 ob K (iK W) L) (.func (.func f) #[] h))) (g':=GM 9 13 11 12 10 8 co (Jd 14 (I5 ob K (iK W) L))) (v:=Bb (Ls v.1.size ob a.ownBlock) u) (v':=Iq u v.1.size cb co b d ob a) (mA:=10) (mB:=15)
  (aC _) (λl M=>?_) I sb (EV.stop (P:=y7) (main:=km) (J:=OQ m cb co v.1.size) (λy=>scA x A E _ _ (Af2 iI _ _) (x _ _ _ D)) (Qm N)) ?_ (by rw[Dc];exact F.size) Lu (λe _=>rfl) (λe V=>?_) (.refl _) ⟨Aj,iI⟩ ⟨Aj,iI⟩ ⟨Aj,N8 c F s iI⟩ ⟨Aj,N8 c F s iI⟩ ?_ ?_ ?_ ?_
 ·obtain⟨a7,U,_,rfl⟩:=M;exact No (sb.sm 0) U
 ·refine(?_:EV y7 sd (TR co) _ _ _) (QY c F);unfold GM;rw[Aka];refine EV.blockC (EV.loopC ?_);refine scB _ Lu ?_ E iH R Q _ _ _ _ _ z J;rw[Lu];unfold bbW;cases ob with
  |none=>simp;omega
  |some a8=>simp;omega
 ·have g:e<(Jp v.1.size cb ob a.ownBlock).length:=by rwa[Yn]
  rw[N8 c F s (aH g)];simp[cO,aS,aH g]
 ·obtain⟨o',C,T⟩:=(s.sm 0).4 _ _ F.b2;rcases T with T|⟨_,_,_,_,T,_⟩|⟨T,_⟩|⟨_,_,_,T,_⟩
  ·exact⟨0,sd,by rw[show(DE m H.In n w u p k v.1.size cb co b d ob a q t f h (X::cs) r).L.Ch=sh n (iL v.1+2) from iI,C,T];simp[Dq]⟩
  ·cases T
  ·exact(c.jn.obj _ T.1).elim
  ·cases T
 ·have:=s.row F.b4 Ad λj=>c.jn.new Aa j;unfold Dx;rw[show(DE m H.In n w u p k v.1.size cb co b d ob a q t f h (X::cs) r).L.Wg=sh n (iL v.1+4) from iI,this];simp[JK]
 ·have o:=Akz (C:=LE n v.1.size H.In p k) (z:=(X::cs).map (Bj n)) (w:=w) (Bx:=sh n (iL v.1+3)) (Ch:=sh n (iL v.1+2)) (r7 ⟨_,iI,kr (kr iI)⟩) (λe=>Az n (yE cb co v.1.size (I5 ob K (iK W) L) (.func (.func f) #[] h) (js #[]) (Pu v.1.size) e)) (by simp[yE,Ei]) B (lt 3 Aa);refine Fv (λ_ _ o=>o) (λ_ _ _ o=>o) (λY _ Z=>⟨Z.trans ?_,iI⟩) o;rw[Mr]
  congr 1
  funext e
  unfold yR;split
  ·simp
  ·rfl
 ·have o:=Aha (C:=LE n v.1.size H.In p k) (w:=w) (q:=sh n (iL v.1+4)) (B:=sh n (iL v.1+3)) (Cv:=sh n v.1.size) (Bv:=sh n (iL v.1+1)) (Ch:=sh n (iL v.1+2)) (sb:=sh n cb) (co:=co) (ba:=(ob.map λa1=>((iD a1 K):Addr)).map (Ei n)) (bl:=iK W) (bc:=L) (λe V=>?_) ⟨B,S,by rw[(s.cellW (cellOf (j:=0) F.4 iI) (c.jn.new Aa 0))];simp[I5],lt 3 Aa,lt 0 Aa,lt 1 Aa⟩
  ·refine Fv (λ_ _ o=>o) (λ_ _ _ o=>o) (λY _ Z=>⟨Z.trans ?_,iI⟩) o;rw[Ab0 c F s];simp[I5]
  ·rcases V with rfl|rfl|rfl
   ·exact r7 ⟨_,iI,kr (kr iI)⟩
   ·exact r7 ⟨_,iI,r7 iI⟩
   ·exact r7 ⟨_,iI,kr (r7 iI)⟩
end
end Go.Proofs.YtcbilgmfdgpomaaGreatDoor
